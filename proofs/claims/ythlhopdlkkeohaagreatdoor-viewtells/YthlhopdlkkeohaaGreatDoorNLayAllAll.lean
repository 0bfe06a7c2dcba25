/- strconv.Itoa, FormatBool, the builder and utf8.AppendRune: laid at this program · The builder's WriteRune · Values' texts, as plain mathematics · The walks of the two 'Int's and the two 'Text's: a number's bytes, a text behind its length · The walk of the document's Digits · The walk of quoted (of a text that is UTF-8) · The walk of value.Text, of a right value · The walks of the document's Text (of a right value), and of both Codes · The walks of the two 'Split' · The walk of 'each' with name.Quote and with pack.Text: what a function answers to each part, in a row of its own. -/
import Derived.Shelf.Strconv.Itoa3
import Derived.Shelf.Small.Wraps
import Derived.Shelf.Small.Strs
import Derived.Shelf.Strings.BuilderRune
import Derived.Lib.AppendIntMem
import Derived.Test.YthlhopdlkkeohaaGreatDoorChecked
import Derived.WalkKit
import Derived.Test.YthlhopdlkkeohaaGreatDoorCompDAllAll
import Derived.Test.YthlhopdlkkeohaaGreatDoorPlainAllAll
import Derived.Lib.ItoaLen
import Derived.Lib.Small
import Derived.Lib.Strings
import Derived.Lib.RuneBytes
import Derived.Laws.IdiomStrings
import Derived.Laws.BytesArg
import Derived.Deep.RegionWith
import Derived.WalkLawsBesides
import Derived.Deep.RegionHeld3
import Derived.Test.YthlhopdlkkeohaaGreatDoorRunesAllAll
import Derived.Test.YthlhopdlkkeohaaGreatDoorKindsAll
import Derived.Test.YthlhopdlkkeohaaGreatDoorQuotesAllAll
import Derived.OwnWalk
/- strconv.Itoa, FormatBool, the builder and utf8.AppendRune: laid at this program · The builder's WriteRune · Values' texts, as plain mathematics · The walks of the two 'Int's and the two 'Text's: a number's bytes, a text behind its length · The walk of the document's Digits. -/
/- strconv.Itoa, FormatBool, the builder and utf8.AppendRune: laid at this program. -/
namespace Go.Proofs.YthlhopdlkkeohaaGreatDoor.N
open Go.Shelf Go.RowKit

/-- Which number the library's functions, types and variables have here. -/
def ren : Ren := ⟨fun | 106 => 124 | 121 => 130 | 122 => 123 | 129 => 116 | 169 => 52 | 171 => 44 | 213 => 163 | 214 => 166 | 215 => 162 | 242 => 185 | 243 => 90 | 246 => 131 | 265 => 183 | 278 => 194 | 283 => 167 | 284 => 168 | 285 => 169 | 286 => 170 | 317 => 186 | 318 => 187 | 319 => 188 | 320 => 189 | 337 => 195 | 338 => 196 | n => n, fun | 0 => 0 | 2 => 2 | 3 => 3 | 4 => 4 | 5 => 5 | 9 => 9 | 20 => 20 | 21 => 21 | 37 => 100 | 46 => 124 | 51 => 163 | 53 => 165 | 70 => 99 | 72 => 102 | 75 => 104 | 76 => 105 | 80 => 108 | 127 => 140 | 171 => 201 | 173 => 203 | 212 => 219 | 213 => 220 | 232 => 224 | 233 => 225 | n => n, fun | 17 => 1 | 18 => 2 | 19 => 3 | n => n⟩
theorem lay106 : Lays.n106 Tryz.prog ren := {
  mixed := by kernel_rfl
  f106 := Tryz.func124.trans (congrArg some (by kernel_rfl))
  f213 := Tryz.func163.trans (congrArg some (by kernel_rfl))
  f265 := Tryz.func183.trans (congrArg some (by kernel_rfl))
  t3 := Tryz.underlying3, a3 := Tryz.isAgg3, z3 := Tryz.sizeOf3, v3 := Tryz.zeroValue3
  t9 := Tryz.underlying9, a9 := Tryz.isAgg9, z9 := Tryz.sizeOf9, v9 := Tryz.zeroValue9 }
theorem lay121 : Lays.n121 Tryz.prog ren := {
  mixed := by kernel_rfl
  f121 := Tryz.func130.trans (congrArg some (by kernel_rfl))
  f214 := Tryz.func166.trans (congrArg some (by kernel_rfl))
  t4 := Tryz.underlying4, a4 := Tryz.isAgg4, z4 := Tryz.sizeOf4, v4 := Tryz.zeroValue4
  t9 := Tryz.underlying9, a9 := Tryz.isAgg9, z9 := Tryz.sizeOf9, v9 := Tryz.zeroValue9 }
theorem lay122 : Lays.n122 Tryz.prog ren := {
  mixed := by kernel_rfl
  f122 := Tryz.func123.trans (congrArg some (by kernel_rfl))
  f215 := Tryz.func162.trans (congrArg some (by kernel_rfl))
  t3 := Tryz.underlying3, a3 := Tryz.isAgg3, z3 := Tryz.sizeOf3, v3 := Tryz.zeroValue3
  t4 := Tryz.underlying4, a4 := Tryz.isAgg4, z4 := Tryz.sizeOf4, v4 := Tryz.zeroValue4 }
theorem lay171 : LaysM.n171 Tryz.prog ren := {
  mixed := by kernel_rfl
  f129 := Tryz.func116.trans (congrArg some (by kernel_rfl))
  f171 := Tryz.func44.trans (congrArg some (by kernel_rfl))
  f243 := Tryz.func90.trans (congrArg some (by kernel_rfl))
  f246 := Tryz.func131.trans (congrArg some (by kernel_rfl))
  f283 := Tryz.func167.trans (congrArg some (by kernel_rfl))
  f284 := Tryz.func168.trans (congrArg some (by kernel_rfl))
  f285 := Tryz.func169.trans (congrArg some (by kernel_rfl))
  f286 := Tryz.func170.trans (congrArg some (by kernel_rfl))
  f317 := Tryz.func186.trans (congrArg some (by kernel_rfl))
  f318 := Tryz.func187.trans (congrArg some (by kernel_rfl))
  f319 := Tryz.func188.trans (congrArg some (by kernel_rfl))
  f320 := Tryz.func189.trans (congrArg some (by kernel_rfl))
  f337 := Tryz.func195.trans (congrArg some (by kernel_rfl))
  f338 := Tryz.func196.trans (congrArg some (by kernel_rfl))
  t0 := Tryz.underlying0, a0 := Tryz.isAgg0, z0 := Tryz.sizeOf0, v0 := Tryz.zeroValue0
  t2 := Tryz.underlying2, a2 := Tryz.isAgg2, z2 := Tryz.sizeOf2, v2 := Tryz.zeroValue2
  t3 := Tryz.underlying3, a3 := Tryz.isAgg3, z3 := Tryz.sizeOf3, v3 := Tryz.zeroValue3
  t4 := Tryz.underlying4, a4 := Tryz.isAgg4, z4 := Tryz.sizeOf4, v4 := Tryz.zeroValue4
  t5 := Tryz.underlying5, a5 := Tryz.isAgg5, z5 := Tryz.sizeOf5, v5 := Tryz.zeroValue5
  t9 := Tryz.underlying9, a9 := Tryz.isAgg9, z9 := Tryz.sizeOf9, v9 := Tryz.zeroValue9
  t20 := Tryz.underlying20, a20 := Tryz.isAgg20, z20 := Tryz.sizeOf20, v20 := Tryz.zeroValue20
  t37 := Tryz.underlying100, a37 := Tryz.isAgg100, z37 := Tryz.sizeOf100, v37 := Tryz.zeroValue100
  t46 := Tryz.underlying124, a46 := Tryz.isAgg124, z46 := Tryz.sizeOf124, v46 := Tryz.zeroValue124
  t51 := Tryz.underlying163, a51 := Tryz.isAgg163, z51 := Tryz.sizeOf163, v51 := Tryz.zeroValue163
  t53 := Tryz.underlying165, a53 := Tryz.isAgg165, z53 := Tryz.sizeOf165, v53 := Tryz.zeroValue165
  t171 := Tryz.underlying201, a171 := Tryz.isAgg201, z171 := Tryz.sizeOf201, v171 := Tryz.zeroValue201
  t173 := Tryz.underlying203, a173 := Tryz.isAgg203, z173 := Tryz.sizeOf203, v173 := Tryz.zeroValue203
  t212 := Tryz.underlying219, a212 := Tryz.isAgg219, z212 := Tryz.sizeOf219, v212 := Tryz.zeroValue219
  t213 := Tryz.underlying220, a213 := Tryz.isAgg220, z213 := Tryz.sizeOf220
  t232 := Tryz.underlying224, a232 := Tryz.isAgg224, z232 := Tryz.sizeOf224, v232 := Tryz.zeroValue224
  t233 := Tryz.underlying225, a233 := Tryz.isAgg225, z233 := Tryz.sizeOf225, v233 := Tryz.zeroValue225
  g17 := by kernel_rfl
  g18 := by kernel_rfl
  g19 := by kernel_rfl
  i0 := by kernel_rfl
  i2 := by kernel_rfl
  i3 := by kernel_rfl
  i4 := by kernel_rfl
  i5 := by kernel_rfl
  i9 := by kernel_rfl
  i20 := by kernel_rfl
  i37 := by kernel_rfl
  i46 := by kernel_rfl
  i51 := by kernel_rfl
  i53 := by kernel_rfl
  i171 := by kernel_rfl
  i173 := by kernel_rfl
  i212 := by kernel_rfl
  i232 := by kernel_rfl
  i233 := by kernel_rfl
  m17 := by kernel_rfl
  m18 := by kernel_rfl
  m19 := by kernel_rfl }
theorem lay169 : Lays.n169 Tryz.prog ren := {
  mixed := by kernel_rfl
  f169 := Tryz.func52.trans (congrArg some (by kernel_rfl))
  t0 := Tryz.underlying0, a0 := Tryz.isAgg0, z0 := Tryz.sizeOf0, v0 := Tryz.zeroValue0
  t3 := Tryz.underlying3, a3 := Tryz.isAgg3, z3 := Tryz.sizeOf3, v3 := Tryz.zeroValue3
  t9 := Tryz.underlying9, a9 := Tryz.isAgg9, z9 := Tryz.sizeOf9, v9 := Tryz.zeroValue9
  t37 := Tryz.underlying100, a37 := Tryz.isAgg100, z37 := Tryz.sizeOf100, v37 := Tryz.zeroValue100
  t70 := Tryz.underlying99, a70 := Tryz.isAgg99, z70 := Tryz.sizeOf99, v70 := Tryz.zeroValue99
  t72 := Tryz.underlying102, a72 := Tryz.isAgg102, z72 := Tryz.sizeOf102, v72 := Tryz.zeroValue102
  t127 := Tryz.underlying140, a127 := Tryz.isAgg140, z127 := Tryz.sizeOf140, v127 := Tryz.zeroValue140 }
theorem layX : Builder.Extra Tryz.prog ren := {
  sizeBuilder := by kernel_rfl
  liesBuilder := by kernel_rfl
  t5 := Tryz.underlying5, a5 := Tryz.isAgg5, z5 := Tryz.sizeOf5, v5 := Tryz.zeroValue5
  infoByte := by kernel_rfl
  cellsByte := by kernel_rfl
  sizeByte := by kernel_rfl
  neB5 := by decide }
theorem lay242 : Lays.n242 Tryz.prog ren := {
  mixed := by kernel_rfl
  f242 := Tryz.func185.trans (congrArg some (by kernel_rfl))
  f278 := Tryz.func194.trans (congrArg some (by kernel_rfl))
  t4 := Tryz.underlying4, a4 := Tryz.isAgg4, z4 := Tryz.sizeOf4, v4 := Tryz.zeroValue4
  t5 := Tryz.underlying5, a5 := Tryz.isAgg5, z5 := Tryz.sizeOf5, v5 := Tryz.zeroValue5
  t21 := Tryz.underlying21, a21 := Tryz.isAgg21, z21 := Tryz.sizeOf21, v21 := Tryz.zeroValue21
  t37 := Tryz.underlying100, a37 := Tryz.isAgg100, z37 := Tryz.sizeOf100, v37 := Tryz.zeroValue100
  t46 := Tryz.underlying124, a46 := Tryz.isAgg124, z46 := Tryz.sizeOf124, v46 := Tryz.zeroValue124
  t51 := Tryz.underlying163, a51 := Tryz.isAgg163, z51 := Tryz.sizeOf163, v51 := Tryz.zeroValue163 }

/-- What the listed variable holds: the table of tens. -/
structure Keeps (w : World) : Prop where
  tab : Lib.TabIs Tryz.prog w "internal/strconv.uint64pow10" .u64 Lib.pow10Tab
theorem Keeps.on {w w' : World} (h : Keeps w) (hb : Below w.heap.size w w') : Keeps w' := ⟨Lib.tabBelow_of_tabIs h.tab w' hb⟩

theorem itoa_any (n : Int) (w : World) (hk : Keeps w) (h0 : -9223372036854775808 ≤ n) (h1 : n ≤ 9223372036854775807) :
    Calls Tryz.prog 44 #[.int .i64 n] w fun e w' => e = .returned (.string ⟨(Lib.itoa n).toArray⟩) ∧ Below w.heap.size w w' := by
  refine (Any.strconv_Itoa lay171 n h0 h1 w hk.tab).mono ?_
  rintro e w' ⟨rfl, k, os, rfl⟩
  exact ⟨rfl, Lib.below_grow _ w (Nat.le_refl _) k os⟩
theorem cmp_any (x y : Int) (w : World) : Calls Tryz.prog 123 #[.int .i64 x, .int .i64 y] w fun e w' => e = .returned (.int .i64 (Lib.compareInt x y)) ∧ w' = w := Any.cmp_Compare_int lay122 x y w
theorem cmpS_any (a b : ByteArray) (w : World) : Calls Tryz.prog 124 #[.string a, .string b] w fun e w' => e = .returned (.int .i64 (Lib.compareBytes a.data.toList b.data.toList)) ∧ w' = w := Any.strings_Compare lay106 a b w
theorem formatBool_any (b : Bool) (w : World) : Calls Tryz.prog 130 #[.bool b] w fun e w' => e = .returned (.string ⟨(Lib.formatBool b).toArray⟩) ∧ w' = w := Any.strconv_FormatBool lay121 b w
/-- The builder tells its text. -/
theorem bString (B b : Nat) (l : List UInt8) (w : World) (h : Lib.IsBuilderF 102 5 B b (Lib.byteCells l) w) (hBw : B ≤ w.heap.size) :
    Calls Tryz.prog 52 #[.pointer (some ⟨b, 0, none⟩)] w fun e w' => e = .returned (.string ⟨l.toArray⟩) ∧ (Lib.IsBuilderF 102 5 B b (Lib.byteCells l) w' ∧ Below B w w' ∧ Lib.OthersKept 5 (some b) w w') := Any.Builder_String_any_k lay169 layX B b l w h hBw
theorem appendRune_any (B : Nat) (v : Value) (n : Nat) (xs : List Value) (r : Int) (hr0 : -2147483648 ≤ r) (hr1 : r ≤ 2147483647) (w : World) (hown : w.ownsRowF B 5 1 v n xs) (hlen : n + 4 ≤ 140737488355328) (hBw : B ≤ w.heap.size) :
    Calls Tryz.prog 185 #[v, .int .i32 r] w fun e w' => ∃ v', e = .returned v' ∧ w'.ownsRowF B 5 1 v' (n + (Lib.runeCells r).length) (xs ++ Lib.runeCells r) ∧ ∃ o, (w.alloc o).grownBy w' v.ownBlock := Any.utf8_AppendRune_own lay242 layX B v n xs r hr0 hr1 w hown hlen hBw

end Go.Proofs.YthlhopdlkkeohaaGreatDoor.N
/- The builder's WriteRune. -/
namespace Go.Proofs.YthlhopdlkkeohaaGreatDoor.U
open Go.RowKit
open N (appendRune_any)

set_option maxHeartbeats 4000000 in
set_option maxRecDepth 100000 in
theorem writeRune_any (B b : Nat) (bs : List Value) (r : Int) (hr0 : -2147483648 ≤ r) (hr1 : r ≤ 2147483647) (w : World) (h : Lib.IsBuilderF 102 5 B b bs w) (hlen : bs.length + 4 ≤ 140737488355328) (hBw : B ≤ w.heap.size) :
    Calls Tryz.prog 165 #[at0 b, .int .i32 r] w fun e w' => e = .returned (.tuple #[.int .i64 (Lib.runeCells r).length, .nilIface]) ∧ Left B b (bs ++ Lib.runeCells r) w w' := by
  have hk4 := Lib.runeCells_le r
  go_enter Tryz.func165, Tryz.ntmps165
  go_wp2_with (go_at_call 92; refine (copyCheck_any B b bs _ h).mono ?_)
  rintro e w1 ⟨rfl, hA, b1, k1⟩
  obtain ⟨u, c0, c1, _, _, hu⟩ := two_cells hA
  obtain ⟨au, cu, rfl⟩ := slice_form hu
  have hs1 := b1.size
  go_wp2_with (go_at_call 185; refine (appendRune_any B _ bs.length bs r hr0 hr1 _ hu hlen (by omega)).mono ?_)
  rintro e w2 ⟨v', rfl, hown, o, hg⟩
  obtain ⟨d0, d1, f1, R1, R2, R3⟩ := stored (v' := v') (bs' := bs ++ Lib.runeCells r) (hA.alloc o) ((World.cell?_of_block (Lib.alloc_old w1 _ b hA.lt)).trans c1) hg (by simpa using hown) (by simp; omega)
  obtain ⟨ao, cap, rfl⟩ := slice_form hown
  go_wp2
  go_ret2
  refine ⟨?_, .inr R1, b1.trans (((Below.refl B w1).alloc (by omega) _).trans R2), k1.trans (((Lib.OthersKept.refl _ _ w1).alloc _).trans R3)⟩
  simp [sub_same]


end Go.Proofs.YthlhopdlkkeohaaGreatDoor.U
/- Values' texts, as plain mathematics. -/
namespace Go.Proofs.YthlhopdlkkeohaaGreatDoor
namespace Nq
/-- A value is quoted so. -/
def isQ (b : UInt8) : Bool := b == 34 || b == 92
def quote (l : List UInt8) : List UInt8 := l.flatMap fun b => if isQ b = true then [92, b] else [b]
theorem quote_nil : quote [] = [] := rfl
theorem quote_cons (b : UInt8) (l : List UInt8) : quote (b :: l) = (if isQ b = true then [92, b] else [b]) ++ quote l := rfl
theorem quote_append (a b : List UInt8) : quote (a ++ b) = quote a ++ quote b := by simp [quote]
theorem isQ_high {b : UInt8} (h : 128 ≤ b.toNat) : isQ b = false := by
  simp only [isQ, Bool.or_eq_false_iff, beq_eq_false_iff_ne]
  constructor <;> (intro e; subst e; simp at h)
theorem quote_high {l : List UInt8} (h : ∀ x ∈ l, isQ x = false) : quote l = l := by
  induction l with
  | nil => rfl
  | cons b l ih =>
    rw [quote_cons, h b (by simp), ih (fun x hx => h x (by simp [hx]))]
    simp
theorem quote_length (l : List UInt8) : (quote l).length ≤ 2 * l.length := by
  induction l with
  | nil => simp [quote_nil]
  | cons b l ih =>
    rw [quote_cons, List.length_append, List.length_cons]
    split <;> simp <;> omega

/-- Is a character quoted? -/
def isQN (c : Nat) : Bool := c == 34 || c == 92
end Nq
namespace Vl
open Go.Lib

def tru : List UInt8 := [116, 114, 117, 101]
def fls : List UInt8 := [102, 97, 108, 115, 101]
theorem formatBool_eq (b : Bool) : formatBool b = if b then tru else fls := by cases b <;> decide +kernel
def quoted (l : List UInt8) : List UInt8 := 34 :: (Nq.quote l ++ [34])
/-- A right value's text. -/
def text (k n : Int) (l : List UInt8) : List UInt8 := if k = 1 then itoa n else if k = 2 then quoted l else if n = 1 then tru else fls
theorem text_str (l : List UInt8) : text 2 0 l = quoted l := rfl
theorem text_int (n : Int) : text 1 n [] = itoa n := rfl
theorem quoted_len (l : List UInt8) : (quoted l).length ≤ 2 * l.length + 2 := by
  have := Nq.quote_length l
  simp [quoted]; omega
theorem text_len {k n : Int} {l : List UInt8} (h : Right k n l) : (text k n l).length ≤ 130 := by
  have := h.len
  have := h.amount
  have := quoted_len l
  unfold text
  split
  · have := itoa_length_le n (by omega) (by omega); omega
  · split
    · omega
    · split <;> simp [tru, fls]


theorem decode_one (b : UInt8) (l : List UInt8) (h : b.toNat < 128) : decodeL (b :: l) = (b.toNat, 1) := by
  rcases Nm.chunk (b :: l) (by simp) with ⟨_, h2⟩ | ⟨h2, _⟩
  · simpa using h2
  · simp only [List.getD_cons_zero] at h2; omega
theorem rest_one (b : UInt8) (l : List UInt8) (h : b.toNat < 128) : Nm.rest (b :: l) = l := by
  unfold Nm.rest; rw [decode_one b l h]; rfl
theorem enc_one (b : UInt8) (h : b.toNat < 128) : encodeRune (b.toNat : Int) = [b] := by
  unfold encodeRune
  rw [encodeRuneZ_one (by omega) (by omega)]
  simp
theorem runes_some {l : List UInt8} (hne : l ≠ []) (h : utf l = true) : Nm.isBad l = false ∧ utf (Nm.rest l) = true := by
  unfold utf at *
  cases hb : Nm.isBad l with
  | true => rw [Nm.runes_bad hne hb] at h; cases h
  | false =>
    rw [Nm.runes_step hne hb] at h
    exact ⟨rfl, by simpa using h⟩

end Vl
end Go.Proofs.YthlhopdlkkeohaaGreatDoor
/- The walks of the two 'Int's and the two 'Text's: a number's bytes, a text behind its length. -/
namespace Go.Proofs.YthlhopdlkkeohaaGreatDoor
open Go.RowKit

/-- Bytes as cells. -/
def cellsOf (l : List UInt8) : List Value := l.map fun b => .int .u8 (b.toNat : Int)
theorem cellsOf_snoc (l : List UInt8) (b : UInt8) : cellsOf (l ++ [b]) = cellsOf l ++ [.int .u8 (b.toNat : Int)] := by simp [cellsOf]
theorem Tryz.info5 : (Tryz.prog.info? 5).map (fun i => (i.zero, i.size, i.bytes)) = some (some (.int .u8 0), 1, 1) := by kernel_rfl

theorem one_new (wr : World) (x : Value) : ∀ j u, [x][j]? = some u → (wr.alloc (.cells #[x] 5)).cell? ((⟨wr.heap.size, 0, none⟩ : Addr).add j) = some u := by
  intro j u hj
  match j, hj with
  | 0, hj => simp at hj; subst hj; simp [Addr.add]
theorem one_cell (n : Int) : ∀ u ∈ [Value.int .u8 n], u.oneCell' = true := by intro u hu; simp at hu; subst hu; rfl
theorem len_one {l : List UInt8} {k : Nat} (h : Hid (l.length ≤ k)) (hk : k ≤ 1000000) : l.length + 1 ≤ maxLen := by have := h.out; unfold maxLen; omega
theorem len_bytes {l : List UInt8} {k : Nat} (h : Hid (l.length ≤ k)) (hk : k ≤ 1000000) : (l.length + 1) * 1 ≤ 140737488355328 := by have := h.out; omega

theorem wrap_i64 {e : Int} (h : -9223372036854775808 ≤ e) (h' : e < 9223372036854775808) : IntKind.i64.wrap e = e := by
  simp [IntKind.wrap, IntKind.signed, IntKind.bits]; try split
  all_goals omega
theorem wrap_u8 {e : Int} (h : 0 ≤ e) (h' : e < 256) : IntKind.u8.wrap e = e := by
  simp [IntKind.wrap, IntKind.signed, IntKind.bits]; omega
theorem below_ahead {w w1 : World} (hb : Below w.drew.heap.size w.drew w1) (o : Obj) : Below w.heap.size w (w1.alloc o) :=
  ((Below.refl _ w).drew.trans hb).alloc hb.size o
theorem ret_str {a b : ByteArray} (h : a = b) : Ending.returned (.string a) = .returned (.string b) := by rw [h]
theorem cons_str (x : UInt8) (l : List UInt8) : (⟨#[x]⟩ : ByteArray) ++ ⟨l.toArray⟩ = ⟨(x :: l).toArray⟩ := by
  apply ByteArray.ext; simp

/-- A text behind its length. -/
def textL (l : List UInt8) : List UInt8 := Pk.enc l.length ++ l
theorem append_mk (l : List UInt8) (s : ByteArray) : (⟨l.toArray⟩ : ByteArray) ++ s = ⟨(l ++ s.data.toList).toArray⟩ := by
  apply ByteArray.ext; simp

end Go.Proofs.YthlhopdlkkeohaaGreatDoor
/- The walk of the document's Digits. -/
namespace Go.Proofs.YthlhopdlkkeohaaGreatDoor.N
open Go.RowKit

theorem bchain {a b c : World} (h : Below a.heap.size a b) (k : Below b.heap.size b c) : Below a.heap.size a c := h.trans (k.mono h.size)
theorem below_new (w : World) (o : Obj) : Below w.heap.size w (w.alloc o) := (Below.refl _ _).alloc (Nat.le_refl _) _
theorem below_new2 (w : World) (o p : Obj) : Below w.heap.size w ((w.alloc o).alloc p) := bchain (below_new w o) (below_new _ p)

/-- What a cell holds, it holds behind a call that leaves all that was there. -/
theorem keep_cell {W w1 : World} {a : Addr} {v : Value} (hb : Below W.heap.size W w1) (h : W.cell? a = some v) : w1.cell? a = some v := (hb.cell (World.block_lt_of_cell? W a h)).trans h

theorem dec_len {n : Nat} (h : n < 9223372036854775808) : (Lib.decDigits n).length ≤ 21 := by
  have := Lib.itoa_length_le (n : Int) (by omega) (by omega)
  rwa [Lib.itoa_nonneg] at this
theorem cat_lists (a b : List UInt8) : (⟨a.toArray⟩ : ByteArray) ++ ⟨b.toArray⟩ = ⟨(a ++ b).toArray⟩ := by apply ByteArray.ext; simp

theorem itoa_len {n : Int} (h0 : -9223372036854775808 ≤ n) (h1 : n ≤ 9223372036854775807) : (Lib.itoa n).length ≤ 21 := Lib.itoa_length_le n h0 h1
end Go.Proofs.YthlhopdlkkeohaaGreatDoor.N
/- The walk of quoted (of a text that is UTF-8) · The walk of value.Text, of a right value · The walks of the document's Text (of a right value), and of both Codes · The walks of the two 'Split' · The walk of 'each' with name.Quote and with pack.Text: what a function answers to each part, in a row of its own. -/
/- The walk of quoted (of a text that is UTF-8). -/
namespace Go.Proofs.YthlhopdlkkeohaaGreatDoor.N
open Go.RowKit

/-- The byte in front of what is quoted; the character is that byte. -/
theorem isQN_byte {l : List UInt8} (hne : l ≠ []) (h : Nq.isQN (Lib.decodeL l).1 = true) : ∃ b t, l = b :: t ∧ Nq.isQ b = true ∧ (Lib.decodeL l).2 = 1 ∧ b.toNat = (Lib.decodeL l).1 := by
  cases l with
  | nil => exact absurd rfl hne
  | cons b t =>
    rcases Nm.chunk (b :: t) hne with ⟨h1, h2⟩ | ⟨_, h2, _⟩
    · rw [h2] at h
      simp only [List.getD_cons_zero] at h h1 h2
      refine ⟨b, t, rfl, ?_, by rw [h2], by rw [h2]⟩
      simp only [Nq.isQN, Bool.or_eq_true, beq_iff_eq] at h
      simp only [Nq.isQ, Bool.or_eq_true, beq_iff_eq]
      rcases h with h | h
      · left; exact UInt8.toNat_inj.1 h
      · right; exact UInt8.toNat_inj.1 h
    · simp only [Nq.isQN, Bool.or_eq_true, beq_iff_eq] at h
      omega
/-- No byte of another character is a quote or an escape. -/
theorem isQN_none {l : List UInt8} (hne : l ≠ []) (h : Nq.isQN (Lib.decodeL l).1 = false) : ∀ x ∈ l.take (Lib.decodeL l).2, Nq.isQ x = false := by
  rcases Nm.chunk l hne with ⟨h1, h2⟩ | ⟨_, _, h3⟩
  · intro x hx
    rw [h2] at h hx
    cases l with
    | nil => exact absurd rfl hne
    | cons b t =>
      simp only [List.getD_cons_zero] at h
      simp at hx
      subst hx
      simp only [Nq.isQN, Bool.or_eq_false_iff, beq_eq_false_iff_ne] at h
      simp only [Nq.isQ, Bool.or_eq_false_iff, beq_eq_false_iff_ne]
      refine ⟨fun e => h.1 (by rw [e]; rfl), fun e => h.2 (by rw [e]; rfl)⟩
  · intro x hx
    exact Nq.isQ_high (h3 x hx)
/-- Where a walk through the characters stands: what is written, what is still to read. -/
def quoAt (l : List UInt8) (pos : Nat) (acc : List UInt8) : Prop := pos ≤ l.length ∧ acc.length ≤ 2 * pos + 1 ∧ Vl.utf (l.drop pos) = true ∧ 34 :: Nq.quote l = acc ++ Nq.quote (l.drop pos)
theorem quoAt_zero {l : List UInt8} (h : Vl.utf l = true) : quoAt l 0 [34] := ⟨by omega, by simp, by simpa using h, by simp⟩
theorem quoAt_step {l : List UInt8} {pos : Nat} {acc : List UInt8} (h : quoAt l pos acc) (hne : l.drop pos ≠ []) (hq : Nq.isQN (Lib.decodeL (l.drop pos)).1 = false) : quoAt l (pos + (Lib.decodeL (l.drop pos)).2) (acc ++ Lib.encodeRune ((Lib.decodeL (l.drop pos)).1 : Int)) := by
  have h1 := Lib.decodeL_le _ hne
  have hw := Lib.decodeL_width (l.drop pos)
  rw [List.length_drop] at h1
  obtain ⟨a1, a2, a3, a4⟩ := h
  obtain ⟨hb, hr⟩ := Vl.runes_some hne a3
  rw [Lib.encode_decode _ hne (Nm.not_bad hb)]
  refine ⟨by omega, ?_, by rw [Nm.drop_rest] at hr; exact hr, ?_⟩
  · rw [List.length_append, List.length_take, List.length_drop]; omega
  · have e : Nq.quote (l.drop pos) = (l.drop pos).take (Lib.decodeL (l.drop pos)).2 ++ Nq.quote (l.drop (pos + (Lib.decodeL (l.drop pos)).2)) := by
      conv => lhs; rw [← List.take_append_drop (Lib.decodeL (l.drop pos)).2 (l.drop pos)]
      rw [Nq.quote_append, Nq.quote_high (isQN_none hne hq), List.drop_drop]
    rw [a4, e]
    simp
theorem quoAt_esc {l : List UInt8} {pos : Nat} {acc : List UInt8} (h : quoAt l pos acc) (hne : l.drop pos ≠ []) (hq : Nq.isQN (Lib.decodeL (l.drop pos)).1 = true) : quoAt l (pos + (Lib.decodeL (l.drop pos)).2) (acc ++ [92] ++ Lib.encodeRune ((Lib.decodeL (l.drop pos)).1 : Int)) := by
  have h1 := Lib.decodeL_le _ hne
  rw [List.length_drop] at h1
  obtain ⟨b, t, e1, e2, e3, e5⟩ := isQN_byte hne hq
  obtain ⟨a1, a2, a3, a4⟩ := h
  obtain ⟨hb, hr⟩ := Vl.runes_some hne a3
  rw [Lib.encode_decode _ hne (Nm.not_bad hb)]
  rw [Nm.drop_rest] at hr
  rw [e3] at h1 hr ⊢
  have e4 : l.drop (pos + 1) = t := by rw [← List.drop_drop, e1]; rfl
  refine ⟨by omega, ?_, hr, ?_⟩
  · simp only [List.length_append, List.length_take, List.length_singleton]
    omega
  · rw [e4, a4, e1, Nq.quote_cons, if_pos e2]
    simp
theorem quoAt_end {l : List UInt8} {pos : Nat} {acc : List UInt8} (h : quoAt l pos acc) (hn : l.drop pos = []) : Vl.quoted l = acc ++ [34] := by
  obtain ⟨a1, a2, a3, a4⟩ := h
  rw [hn, Nq.quote_nil, List.append_nil] at a4
  rw [← a4]; rfl

set_option maxRecDepth 100000 in
set_option maxHeartbeats 4000000 in
theorem quoted_any (s : ByteArray) (w : World) (hs : s.size ≤ 2000000) (hu : Vl.utf s.data.toList = true) :
    Calls Tryz.prog 129 #[.string s] w fun e w' => e = .returned (.string ⟨(Vl.quoted s.data.toList).toArray⟩) ∧ Below w.heap.size w w' := by
  have H0 := Lib.IsBuilderF.of (Lib.fresh_isBuilder 102 5 w)
  have HU : Hid (quoAt s.data.toList 0 [34]) := by have h := quoAt_zero hu; exact h
  clear hu
  go_enter Tryz.func129, Tryz.ntmps129
  go_wp2_with (first | (go_at_call 51; refine (U.writeByte_any w.heap.size w.heap.size _ 34 _ H0 (by simp) (by simp)).mono ?_) | go_in)
  rintro e W0 ⟨rfl, h0, b0, k0⟩
  have hsz0 := b0.size
  have hB0 : Below w.heap.size w W0 := ((Below.refl _ w).alloc (Nat.le_refl _) _).trans b0
  clear b0 k0 H0
  have hg : w.heap.size < W0.heap.size := by simp at hsz0; omega
  go_wp2
  go_loopw [] (fun wr => ∃ (pos : Nat) (acc : List UInt8), Lib.IsBuilderF 102 5 w.heap.size w.heap.size (Lib.byteCells acc) wr ∧ wr.heap[W0.heap.size]? = some (.stringIter s pos) ∧ Below w.heap.size w wr ∧ quoAt s.data.toList pos acc) (fun wr => s.size - wr.iterPos W0.heap.size)
  case atStart =>
    refine ⟨0, [34], ?_, ?_, hB0.alloc (by omega) _, HU.out⟩
    · have h1 : Lib.IsBuilderF 102 5 w.heap.size w.heap.size (Lib.byteCells [34]) W0 := h0
      exact h1.alloc _
    · have := World.iter_heap W0 s 0
      simpa using this
  case round =>
    obtain ⟨pos, acc, hI, hit, hbw, hR⟩ := hrel
    have hsz : W0.heap.size < wr.heap.size := U.heap_lt hit
    have hpl := hR.1
    rw [size_len] at hpl
    have hal := hR.2.1
    by_cases hp : pos < s.size
    · have hnx : ∀ ty, (Instr.next (.pointer (some ⟨W0.heap.size, 0, none⟩)) true ty).run Tryz.prog wr = _ := fun ty => Lib.run_next_any_at wr W0.heap.size s pos ty hit hp
      have HE : Hid (s.data.toList.drop pos ≠ []) := U.drop_ne hp
      have HD : Hid (Lib.decodeL (s.data.toList.drop pos) = Utf8.decode s pos) := Lib.decodeL_drop s pos
      have hd1 := decode_le s pos
      have hwd : 1 ≤ (Utf8.decode s pos).2 := by rw [← HD.out]; exact Lib.decodeL_width _
      have hI2 := hI.iterAt hit (pos + (Utf8.decode s pos).2)
      have hit2 := Lib.iterAt_heap wr W0.heap.size s pos (pos + (Utf8.decode s pos).2) hit
      have hbw2 := Lib.below_iterAt hbw (k := W0.heap.size) (by omega) s (pos + (Utf8.decode s pos).2)
      have hsz2 : w.heap.size ≤ (wr.iterAt W0.heap.size s (pos + (Utf8.decode s pos).2)).heap.size := by rw [Lib.iterAt_size]; omega
      cases hq : Nq.isQN (Utf8.decode s pos).1 with
      | false =>
        have HR : Hid (quoAt s.data.toList (pos + (Utf8.decode s pos).2) (acc ++ Lib.encodeRune ((Utf8.decode s pos).1 : Int))) := by
          have h := quoAt_step hR HE.out (by rw [HD.out]; exact hq)
          rw [HD.out] at h
          exact h
        clear hR
        have q1 : (((Utf8.decode s pos).1 : Int) == 34) = false := by
          simp only [Nq.isQN, Bool.or_eq_false_iff, beq_eq_false_iff_ne] at hq
          exact beq_eq_false_iff_ne.2 (by omega)
        have q2 : (((Utf8.decode s pos).1 : Int) == 92) = false := by
          simp only [Nq.isQN, Bool.or_eq_false_iff, beq_eq_false_iff_ne] at hq
          exact beq_eq_false_iff_ne.2 (by omega)
        clear hq
        go_wp2_with (first
          | (go_at_call 165; refine (U.writeRune_any w.heap.size w.heap.size _ _ (by omega) (by omega) _ hI2 (by rw [Lib.byteCells_length]; omega) hsz2).mono ?_)
          | go_in)
        rintro e W1 ⟨rfl, h1, b1, k1⟩
        go_wp2
        go_roundw
        case rel =>
          refine ⟨pos + (Utf8.decode s pos).2, acc ++ Lib.encodeRune (Utf8.decode s pos).1, ?_, k1.iter hit2 (by omega), hbw2.trans b1, HR.out⟩
          rw [Lib.byteCells_append, Lib.byteCells_encodeRune]
          exact h1
        case measure =>
          simp only [World.iterPos, k1.iter hit2 (by omega), hit]
          omega
      | true =>
        have HR : Hid (quoAt s.data.toList (pos + (Utf8.decode s pos).2) (acc ++ [92] ++ Lib.encodeRune ((Utf8.decode s pos).1 : Int))) := by
          have h := quoAt_esc hR HE.out (by rw [HD.out]; exact hq)
          rw [HD.out] at h
          exact h
        clear hR
        have q : (Utf8.decode s pos).1 = 34 ∨ (Utf8.decode s pos).1 = 92 := by
          simp only [Nq.isQN, Bool.or_eq_true, beq_iff_eq] at hq
          exact hq
        clear hq
        generalize (Utf8.decode s pos).2 = d at *
        rcases q with q | q
        all_goals
          rw [q] at HR hnx hd1
          clear q HD
          go_wp2_with (first
            | (go_at_call 51; refine (U.writeByte_any w.heap.size w.heap.size _ 92 _ hI2 (by rw [Lib.byteCells_length]; omega) hsz2).mono ?_)
            | go_in)
          rintro e W1 ⟨rfl, h1, b1, k1⟩
          have hit3 := k1.iter hit2 (by omega)
          have hsz3 : w.heap.size ≤ W1.heap.size := Nat.le_trans hsz2 b1.size
          go_wp2_with (first
            | (go_at_call 165; refine (U.writeRune_any w.heap.size w.heap.size _ _ (by omega) (by omega) _ h1 (by simp only [List.length_append, Lib.byteCells_length, List.length_singleton]; omega) hsz3).mono ?_)
            | go_in)
          rintro e W2 ⟨rfl, h2, b2, k2⟩
          have hit4 := k2.iter hit3 (by omega)
          go_wp2
          go_roundw
          case rel =>
            refine ⟨pos + d, _, ?_, hit4, (hbw2.trans b1).trans b2, HR.out⟩
            rw [Lib.byteCells_append, Lib.byteCells_encodeRune, Lib.byteCells_append]
            exact h2
          case measure =>
            simp only [World.iterPos, hit4, hit]
            omega
    · have hnx : ∀ ty, (Instr.next (.pointer (some ⟨W0.heap.size, 0, none⟩)) true ty).run Tryz.prog wr = _ := fun ty => Lib.run_next_end_at wr W0.heap.size s pos ty hit hp
      have HL : Hid (Vl.quoted s.data.toList = acc ++ [34]) := by
        have h := quoAt_end hR (U.drop_nil hp)
        exact h
      clear hR
      go_wp2_with (first
        | (go_at_call 51; refine (U.writeByte_any w.heap.size w.heap.size _ 34 _ hI (by rw [Lib.byteCells_length]; omega) (by omega)).mono ?_)
        | go_in)
      rintro e W1 ⟨rfl, h1, b1, k1⟩
      have h1' : Lib.IsBuilderF 102 5 w.heap.size w.heap.size (Lib.byteCells (acc ++ [34])) W1 := by rw [Lib.byteCells_append]; exact h1
      have hsz3 : w.heap.size ≤ W1.heap.size := Nat.le_trans (by omega) b1.size
      go_wp2_with (first | (go_at_call 52; refine (bString w.heap.size w.heap.size _ _ h1' hsz3).mono ?_) | go_in)
      rintro e W2 ⟨rfl, _, b2, _⟩
      go_wp2
      go_ret
      exact ⟨ret_str (by rw [HL.out]), (hbw.trans b1).trans b2⟩

end Go.Proofs.YthlhopdlkkeohaaGreatDoor.N
/- The walk of value.Text, of a right value. -/
namespace Go.Proofs.YthlhopdlkkeohaaGreatDoor.N
open Go.RowKit

set_option maxRecDepth 20000 in
theorem inside_any (k n : Int) (l : List UInt8) (w : World) : Calls Tryz.prog 128 #[valV k n l] w fun e w' => e = .returned (inV (Vl.inside k n l)) ∧ Below w.heap.size w w' := by
  by_cases h1 : k = 1
  · subst h1
    go_enter Tryz.func128, Tryz.ntmps128
    go_wp2
    go_ret
    exact ⟨rfl, below_new _ _⟩
  · have e1 : (k == 1) = false := beq_eq_false_iff_ne.2 h1
    by_cases h2 : k = 2
    · subst h2
      go_enter Tryz.func128, Tryz.ntmps128
      go_wp2
      go_ret
      exact ⟨rfl, below_new _ _⟩
    · have e2 : (k == 2) = false := beq_eq_false_iff_ne.2 h2
      rw [show Vl.inside k n l = .bool (n == 1) by unfold Vl.inside; rw [if_neg h1, if_neg h2]]
      clear h1 h2
      go_enter Tryz.func128, Tryz.ntmps128
      go_wp2
      go_ret
      exact ⟨rfl, below_new _ _⟩

theorem quoted_list (l : List UInt8) (w : World) (hs : l.length ≤ 2000000) (hu : Vl.utf l = true) : Calls Tryz.prog 129 #[.string ⟨l.toArray⟩] w fun e w' => e = .returned (.string ⟨(Vl.quoted l).toArray⟩) ∧ Below w.heap.size w w' :=
  quoted_any ⟨l.toArray⟩ w (by rw [mk_size]; exact hs) hu
theorem formatBool_list (b : Bool) (w : World) : Calls Tryz.prog 130 #[.bool b] w fun e w' => e = .returned (.string ⟨(if b then Vl.tru else Vl.fls).toArray⟩) ∧ Below w.heap.size w w' := by
  refine (formatBool_any b w).mono ?_
  rintro e w' ⟨rfl, rfl⟩
  rw [Vl.formatBool_eq]
  exact ⟨rfl, Below.refl _ _⟩

set_option maxRecDepth 20000 in
theorem text_right (k n : Int) (l : List UInt8) (w : World) (hk : Keeps w) (h : Vl.Right k n l) : Calls Tryz.prog 89 #[valV k n l] w fun e w' => e = .returned (.string ⟨(Vl.text k n l).toArray⟩) ∧ Below w.heap.size w w' := by
  have hlen := h.len
  have hu := h.utf
  have ham := h.amount
  rcases h with ⟨rfl, rfl, h1, h2⟩ | ⟨rfl, rfl, h1, h2⟩ | ⟨rfl, rfl, h1, h2⟩
  · have C25 : ∀ w, Calls Tryz.prog 128 #[valV 1 n []] w fun e w' => e = .returned (.iface 3 (.int .i64 n)) ∧ Below w.heap.size w w' := fun w => inside_any 1 n [] w
    have C32 := fun w (hk : Keeps w) => itoa_any n w hk (by omega) (by omega)
    have A := as3_3
    rw [show Vl.text 1 n [] = Lib.itoa n from rfl]
    generalize Lib.itoa n = t at *
    go_enter Tryz.func89, Tryz.ntmps89
    go_wp2_with (first
      | (go_at_call 128; refine (C25 _).mono ?_; rintro e w1 ⟨rfl, hb1⟩; have B1 := bchain (below_new w (valO 1 n [])) hb1)
      | (go_at_call 44; refine (C32 _ (hk.on B1)).mono ?_; rintro e w2 ⟨rfl, hb2⟩))
    go_ret
    exact ⟨rfl, bchain B1 hb2⟩
  · have C25 : ∀ w, Calls Tryz.prog 128 #[valV 2 0 l] w fun e w' => e = .returned (.iface 9 (.string ⟨l.toArray⟩)) ∧ Below w.heap.size w w' := fun w => inside_any 2 0 l w
    have C33 := fun w => quoted_list l w (by omega) hu
    have A := as9_3
    have B := as9_9
    rw [Vl.text_str]
    generalize Vl.quoted l = t at *
    go_enter Tryz.func89, Tryz.ntmps89
    go_wp2_with (first
      | (go_at_call 128; refine (C25 _).mono ?_; rintro e w1 ⟨rfl, hb1⟩; have B1 := bchain (below_new w (valO 2 0 l)) hb1)
      | (go_at_call 129; refine (C33 _).mono ?_; rintro e w2 ⟨rfl, hb2⟩))
    go_ret
    exact ⟨rfl, bchain B1 hb2⟩
  · have C25 : ∀ w, Calls Tryz.prog 128 #[valV 3 n []] w fun e w' => e = .returned (.iface 4 (.bool (n == 1))) ∧ Below w.heap.size w w' := fun w => inside_any 3 n [] w
    have C34 := formatBool_list (n == 1)
    have A := as4_3
    have B := as4_9
    have C := as4_4
    rw [show (if (n == 1) = true then Vl.tru else Vl.fls) = Vl.text 3 n [] by rw [show Vl.text 3 n [] = (if n = 1 then Vl.tru else Vl.fls) from rfl]; by_cases e : n = 1 <;> simp [e]] at C34
    generalize Vl.text 3 n [] = t at *
    generalize (n == 1) = q at *
    go_enter Tryz.func89, Tryz.ntmps89
    go_wp2_with (first
      | (go_at_call 128; refine (C25 _).mono ?_; rintro e w1 ⟨rfl, hb1⟩; have B1 := bchain (below_new w (valO 3 n [])) hb1)
      | (go_at_call 130; refine (C34 _).mono ?_; rintro e w2 ⟨rfl, hb2⟩))
    go_ret
    exact ⟨rfl, bchain B1 hb2⟩


end Go.Proofs.YthlhopdlkkeohaaGreatDoor.N
/- The walks of the document's Text (of a right value), and of both Codes. -/
namespace Go.Proofs.YthlhopdlkkeohaaGreatDoor.N
open Go.RowKit

theorem isQ_iff {b : UInt8} : Nq.isQ b = true ↔ b = 34 ∨ b = 92 := by simp [Nq.isQ]
theorem drop_cons' {s : ByteArray} {pos : Nat} (h : pos < s.size) : s.data.toList.drop pos = s[pos] :: s.data.toList.drop (pos + 1) := by
  rw [List.drop_eq_getElem_cons (by rw [size_len]; exact h)]
  rfl
theorem slice_one (s : ByteArray) (a : Nat) (h : a < s.size) : ∀ wx, (Instr.slice 9 (.string s) (some (.int .i64 (a : Int))) (some (.int .i64 ((a : Int) + 1))) none).run Tryz.prog wx = .ok (.string ⟨#[s[a]]⟩) wx := by
  intro wx
  have h1 := run_slice_string (P := Tryz.prog) wx 9 s .i64 .i64 (a : Int) ((a : Int) + 1) Tryz.underlying9 (by omega) (by omega) (by omega)
  have e : s.extract a (a + 1) = ⟨#[s[a]]⟩ := by
    apply ByteArray.ext
    apply Array.toList_inj.1
    simp only [ByteArray.data_extract, Array.toList_extract, List.extract_eq_take_drop]
    rw [Nat.add_sub_cancel_left, drop_cons' h]
    rfl
  rw [h1, show ((a : Int) + 1).toNat = a + 1 by omega, show (a : Int).toNat = a by omega, e]
theorem add_lists {x y : List UInt8} (h : ¬ 9223372036854775807 < x.length + y.length) (w : World) : (binOp .add 9 (.string ⟨x.toArray⟩) (.string ⟨y.toArray⟩)).run Tryz.prog w = .ok (.string ⟨(x ++ y).toArray⟩) w := by
  go_simp
  rw [cat_lists]
theorem app_bytes (acc : List UInt8) (b : UInt8) : (⟨acc.toArray⟩ : ByteArray) ++ ⟨#[b]⟩ = ⟨(acc ++ [b]).toArray⟩ := cat_lists acc [b]
/-- Where the walk through a text's bytes stands: what is written, what is still to read. -/
def qAt (l : List UInt8) (pos : Nat) (acc : List UInt8) : Prop := pos ≤ l.length ∧ acc.length ≤ 2 * pos + 1 ∧ 34 :: Nq.quote l = acc ++ Nq.quote (l.drop pos)
theorem qAt_zero (l : List UInt8) : qAt l 0 [34] := ⟨by omega, by simp, by simp⟩
end Go.Proofs.YthlhopdlkkeohaaGreatDoor.N
/- The walks of the two 'Split'. -/
namespace Go.Proofs.YthlhopdlkkeohaaGreatDoor.U
open Go.RowKit

/-! ### A builder beside texts of the call's own -/
/-! ### Split, byte by byte -/
/-- Where a walk through the bytes stands. -/
def spAt (l : List UInt8) (pos : Nat) (outs : List (List UInt8)) (word : List UInt8) : Prop := pos ≤ l.length ∧ word.length ≤ pos ∧ outs.length ≤ pos ∧ Nm.split l = Nm.sp (l.drop pos) false outs word
theorem spAt_zero (l : List UInt8) : spAt l 0 [] [] := ⟨by omega, by simp, by simp, by simp [Nm.split]⟩
theorem sp_slash (r : List UInt8) (outs : List (List UInt8)) (word : List UInt8) : Nm.sp (47 :: r) false outs word = Nm.sp r false (outs ++ [word]) [] := by
  rw [Nm.sp, if_neg (by decide), if_pos rfl]
theorem sp_esc (r : List UInt8) (outs : List (List UInt8)) (word : List UInt8) : Nm.sp (92 :: r) false outs word = Nm.sp r true outs word := by
  rw [Nm.sp, if_pos rfl]
theorem sp_escaped {b : UInt8} (r : List UInt8) (outs : List (List UInt8)) (word : List UInt8) (h : Nm.isQ b = true) : Nm.sp (b :: r) true outs word = Nm.sp r false outs (word ++ [b]) := by
  rw [Nm.sp, if_pos h]
theorem sp_wrong {b : UInt8} (r : List UInt8) (outs : List (List UInt8)) (word : List UInt8) (h : Nm.isQ b = false) : Nm.sp (b :: r) true outs word = none := by
  rw [Nm.sp, if_neg (by rw [h]; simp)]
theorem byte_of {b c : UInt8} (h : b.toNat = c.toNat) : b = c := UInt8.toNat_inj.1 h

/-- What the two tell. -/
def splitL (l : List UInt8) : List (List UInt8) := (Nm.split l).getD []
def splitOk (l : List UInt8) : Bool := (Nm.split l).isSome
theorem splitL_none {l : List UInt8} (h : Nm.split l = none) : splitL l = [] ∧ splitOk l = false := by simp [splitL, splitOk, h]
theorem splitL_some {l : List UInt8} {x : List (List UInt8)} (h : Nm.split l = some x) : splitL l = x ∧ splitOk l = true := by simp [splitL, splitOk, h]

/-! ### Split, character by character -/
/-- Where a walk through the characters stands. -/
def splAt (l : List UInt8) (pos fr : Nat) (esc : Bool) (outs : List (List UInt8)) (acc : List UInt8) : Prop := fr ≤ pos ∧ pos ≤ l.length ∧ acc.length + (pos - fr) ≤ pos ∧ outs.length ≤ pos ∧ Nm.split l = Nm.sp (l.drop pos) esc outs (acc ++ (l.take pos).drop fr)
theorem splAt_zero (l : List UInt8) : splAt l 0 0 false [] [] := ⟨by omega, by omega, by simp, by simp, by simp [Nm.split]⟩
end Go.Proofs.YthlhopdlkkeohaaGreatDoor.U
/- The walk of 'each' with name.Quote and with pack.Text: what a function answers to each part, in a row of its own. -/
namespace Go.Proofs.YthlhopdlkkeohaaGreatDoor.U
open Go.RowKit

/-- A row of one's own stands through a call. -/
theorem own_on {w w' : World} {B : Nat} {e : TypeId} {v : Value} {n : Nat} {xs : List Value} (h : w.ownsRow B e 1 v n xs) (hb : Below w.heap.size w w') : w'.ownsRow B e 1 v n xs := by
  refine ⟨h.1, ?_⟩
  rcases h.2 with h0 | ⟨g, cap, cur, h1, h2, h3, h4⟩
  · exact Or.inl h0
  · exact Or.inr ⟨g, cap, cur, h1, h2, (hb.block g (heap_lt h3)).trans h3, h4⟩
theorem quote_list (l : List UInt8) (w : World) (hl : l.length ≤ 2000000) : Calls Tryz.prog 88 #[.string ⟨l.toArray⟩] w fun e w' => e = .returned (.string ⟨(Nm.quote l).toArray⟩) ∧ Below w.heap.size w w' :=
  quote_any ⟨l.toArray⟩ w (by simp [ByteArray.size]; exact hl)
theorem map_take_succ (f : List UInt8 → List UInt8) {xs : List (List UInt8)} {k : Nat} (h : k < xs.length) : (xs.map f).take (k + 1) = (xs.map f).take k ++ [f xs[k]] := by
  rw [List.take_succ_eq_append_getElem (by rw [List.length_map]; exact h), List.getElem_map]

set_option maxRecDepth 20000 in
set_option maxHeartbeats 2000000 in
theorem each_quote (v : Value) (xs : List (List UInt8)) (w : World) (hx : xs.length ≤ 1000) (hz : ∀ x ∈ xs, x.length ≤ 1000000) (hv : strsAt w v xs) :
    Calls Tryz.prog 87 #[v, .func (.func 88) #[] #[]] w fun e w' => ∃ u, e = .returned u ∧ w'.ownsRow w.heap.size 9 1 u xs.length (cellsS (xs.map Nm.quote)) ∧ Below w.heap.size w w' := by
  obtain ⟨i0, hi, hz0, hz1, hz2⟩ := info_parts info9
  obtain ⟨ao, ca, rfl, _, hc⟩ := hv
  go_enter Tryz.func87, Tryz.ntmps87
  go_wp2_with (refine wpList_make_own _ rfl _ _ 24 rfl w.heap.size 9 i0 (.string ⟨#[]⟩) 1 Tryz.underlying24 hi hz0 hz1 _ _ _ xs.length rfl rfl rfl (by rw [hz2]; omega) (by unfold maxLen; omega) (Nat.le_refl _) ?_)
  intro w0 hown0 hg0
  have hb0 : Below w.heap.size w w0 := (Below.refl _ w).grown hg0 (Nat.le_refl _) (fun k hk => by cases hk)
  generalize Value.slice (some ⟨w.heap.size, 0, none⟩) 0 xs.length = v0 at *
  go_wp2
  go_loopw [5, 13] (fun u i wr => ∃ k : Nat, k ≤ xs.length ∧ i = .int .i64 k ∧ wr.ownsRow w.heap.size 9 1 u k (cellsS ((xs.map Nm.quote).take k)) ∧ Below w.heap.size w wr) (fun _ i _ => xs.length - (intOf i).toNat)
  case atStart => exact ⟨0, by omega, rfl, hown0, hb0⟩
  case round =>
    obtain ⟨k, hk, rfl, hown, hbw⟩ := hrel
    by_cases hlt : k < xs.length
    · obtain ⟨ad, rfl, hA⟩ := hc k hlt
      have hA2 : wr.cell? (ad.add k) = some (.string ⟨(xs[k]).toArray⟩) := (hbw.cell (World.block_lt_of_cell? _ _ hA)).trans hA
      have HT : Hid ((xs.map Nm.quote).take (k + 1) = (xs.map Nm.quote).take k ++ [Nm.quote xs[k]]) := map_take_succ _ hlt
      have HC := fun W => quote_list xs[k] W (Nat.le_trans (hz _ (List.getElem_mem hlt)) (by omega))
      clear hc hA hz
      generalize Nm.quote xs[k] = y at *
      generalize xs[k] = x at *
      go_wp2_with (go_at_call 88; refine (HC _).mono ?_)
      rintro e w1 ⟨rfl, hb1⟩
      have hown1 := own_on hown hb1
      have hs1 : w.heap.size ≤ w1.heap.size := Nat.le_trans hbw.size hb1.size
      have hbw1 : Below w.heap.size w w1 := hbw.trans (hb1.mono hbw.size)
      go_wp2_with (at_builtin; refine wpList_append_own _ rfl _ _ 24 rfl w.heap.size 9 i0 (.string ⟨#[]⟩) 1 16 Tryz.underlying24 hi hz0 hz1 hz2 rfl (by decide) _ _ _ rfl (hown1.alloc _) ⟨_, 0, none⟩ 1 1 [.string ⟨y.toArray⟩] rfl rfl (one_new5 _ _ _) (one_cellS _) ?c3 ?c4 ?c5 ?_)
      case c3 => unfold maxLen; omega
      case c4 => omega
      case c5 => simp; omega
      intro v' w2 hown' hgrow _
      have R1 := own_below hown1 hs1 hbw1 hgrow
      rw [cellsS_snoc, ← HT.out] at hown'
      clear hgrow hown hown1
      go_wp2
      go_roundw
      case rel => exact ⟨k + 1, by omega, by go_num, hown', R1⟩
      case measure => simp [intOf]; omega
    · obtain rfl : k = xs.length := by omega
      rw [List.take_of_length_le (by rw [List.length_map]; exact Nat.le_refl _)] at hown
      clear hc hz
      go_wp2
      go_ret
      exact ⟨_, rfl, hown, hbw⟩

end Go.Proofs.YthlhopdlkkeohaaGreatDoor.U
