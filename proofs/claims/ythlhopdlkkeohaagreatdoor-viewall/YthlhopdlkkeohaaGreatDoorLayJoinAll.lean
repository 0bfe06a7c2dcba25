/- strings.Join, which lies proved over any program: laid at this program; at a row of one's own · The walks of Text and Code and of the document's · The walks of the document's Line and Text of a view. -/
import Derived.Shelf.Strings.OnBuilder
import Derived.Test.YthlhopdlkkeohaaGreatDoorChecked
import Derived.Test.YthlhopdlkkeohaaGreatDoorQuotesAll
import Derived.Test.YthlhopdlkkeohaaGreatDoorNQuoteAll
import Derived.Test.YthlhopdlkkeohaaGreatDoorERefAtAll
import Derived.Deep.RegionHeld3
/- strings.Join, which lies proved over any program: laid at this program; at a row of one's own. -/
namespace Go.Proofs.YthlhopdlkkeohaaGreatDoor.J
open Go.Shelf Go.RowKit

/-- Which number the library's functions, types and variables have here. -/
def ren : Ren := ⟨fun | 156 => 86 | 165 => 126 | 166 => 50 | 169 => 52 | 240 => 92 | 241 => 164 | 276 => 132 | 277 => 184 | n => n, fun | 0 => 0 | 3 => 3 | 4 => 4 | 5 => 5 | 9 => 9 | 20 => 20 | 31 => 24 | 37 => 100 | 70 => 99 | 72 => 102 | 75 => 104 | 76 => 105 | 80 => 108 | 127 => 140 | 164 => 176 | n => n, fun | n => n⟩
theorem lay156 : Lays.n156 Tryz.prog ren := {
  mixed := by kernel_rfl
  f156 := Tryz.func86.trans (congrArg some (by kernel_rfl))
  f165 := Tryz.func126.trans (congrArg some (by kernel_rfl))
  f166 := Tryz.func50.trans (congrArg some (by kernel_rfl))
  f169 := Tryz.func52.trans (congrArg some (by kernel_rfl))
  f240 := Tryz.func92.trans (congrArg some (by kernel_rfl))
  f241 := Tryz.func164.trans (congrArg some (by kernel_rfl))
  f276 := Tryz.func132.trans (congrArg some (by kernel_rfl))
  f277 := Tryz.func184.trans (congrArg some (by kernel_rfl))
  t0 := Tryz.underlying0, a0 := Tryz.isAgg0, z0 := Tryz.sizeOf0, v0 := Tryz.zeroValue0
  t3 := Tryz.underlying3, a3 := Tryz.isAgg3, z3 := Tryz.sizeOf3, v3 := Tryz.zeroValue3
  t4 := Tryz.underlying4, a4 := Tryz.isAgg4, z4 := Tryz.sizeOf4, v4 := Tryz.zeroValue4
  t9 := Tryz.underlying9, a9 := Tryz.isAgg9, z9 := Tryz.sizeOf9, v9 := Tryz.zeroValue9
  t20 := Tryz.underlying20, a20 := Tryz.isAgg20, z20 := Tryz.sizeOf20, v20 := Tryz.zeroValue20
  t31 := Tryz.underlying24, a31 := Tryz.isAgg24, z31 := Tryz.sizeOf24, v31 := Tryz.zeroValue24
  t37 := Tryz.underlying100, a37 := Tryz.isAgg100, z37 := Tryz.sizeOf100, v37 := Tryz.zeroValue100
  t70 := Tryz.underlying99, a70 := Tryz.isAgg99, z70 := Tryz.sizeOf99, v70 := Tryz.zeroValue99
  t72 := Tryz.underlying102, a72 := Tryz.isAgg102, z72 := Tryz.sizeOf102, v72 := Tryz.zeroValue102
  t75 := Tryz.underlying104, a75 := Tryz.isAgg104, z75 := Tryz.sizeOf104, v75 := Tryz.zeroValue104
  t76 := Tryz.underlying105, a76 := Tryz.isAgg105, z76 := Tryz.sizeOf105, v76 := Tryz.zeroValue105
  t127 := Tryz.underlying140, a127 := Tryz.isAgg140, z127 := Tryz.sizeOf140, v127 := Tryz.zeroValue140
  t164 := Tryz.underlying176, a164 := Tryz.isAgg176, z164 := Tryz.sizeOf176, v164 := Tryz.zeroValue176 }
theorem layX : Builder.Extra Tryz.prog ren := {
  sizeBuilder := by kernel_rfl
  liesBuilder := by kernel_rfl
  t5 := Tryz.underlying5, a5 := Tryz.isAgg5, z5 := Tryz.sizeOf5, v5 := Tryz.zeroValue5
  infoByte := by kernel_rfl
  cellsByte := by kernel_rfl
  sizeByte := by kernel_rfl
  neB5 := by decide }
end Go.Proofs.YthlhopdlkkeohaaGreatDoor.J
namespace Go.Proofs.YthlhopdlkkeohaaGreatDoor.U
open Go.Shelf Go.RowKit

/-- Texts that lie in a row of one's own, joined. -/
theorem join_own {B : Nat} {u : Value} {ys : List (List UInt8)} {w : World} (sep : List UInt8) (h : w.ownsRow B 9 1 u ys.length (cellsS ys)) (hn : ys.length ≤ 140737488355328) (hlen : (Lib.join ys sep).length ≤ 140737488355328) :
    Calls Tryz.prog 86 #[u, .string ⟨sep.toArray⟩] w fun e w' => e = .returned (.string ⟨(Lib.join ys sep).toArray⟩) ∧ Below w.heap.size w w' := by
  have hmap : (ys.map fun x => (⟨x.toArray⟩ : ByteArray)).map (·.data.toList) = ys := by
    rw [List.map_map]
    conv => rhs; rw [← List.map_id ys]
    apply List.map_congr_left
    intro x _
    simp
  rcases h.2 with ⟨rfl, h0⟩ | ⟨g, cap, cur, rfl, hB, hg, hle, _⟩
  · obtain rfl : ys = [] := List.eq_nil_of_length_eq_zero h0
    refine (Any.strings_Join_none J.lay156 J.layX none 0 ⟨sep.toArray⟩ w).mono fun e w' ⟨he, hw⟩ => ⟨?_, hw ▸ Below.refl _ _⟩
    rw [he]; rfl
  · have hc := Any.strings_Join J.lay156 J.layX g 0 cap (ys.map fun x => (⟨x.toArray⟩ : ByteArray)) ⟨sep.toArray⟩ w (fun j x hx => by
      have h1 := h.cells rfl j (.string x) (by
        rw [List.getElem?_map] at hx
        obtain ⟨y, hy, rfl⟩ := Option.map_eq_some_iff.1 hx
        simp [cellsS, hy])
      rw [Addr.add_lit] at h1
      exact h1) (heap_lt hg) (by rw [List.length_map]; exact hn) (by rw [List.length_map]; exact hle) (by rw [hmap]; simpa using hlen)
    rw [hmap, List.length_map] at hc
    exact hc

end Go.Proofs.YthlhopdlkkeohaaGreatDoor.U
/- The walks of Text and Code and of the document's. -/
namespace Go.Proofs.YthlhopdlkkeohaaGreatDoor.U
open Go.RowKit

theorem bchain {a b c : World} (h1 : Below a.heap.size a b) (h2 : Below b.heap.size b c) : Below a.heap.size a c := h1.trans (h2.mono h1.size)
theorem ret_str2 {a b : List UInt8} (h : a = b) : Ending.returned (.string ⟨a.toArray⟩) = .returned (.string ⟨b.toArray⟩) := by rw [h]

/-! ### Lengths -/
theorem lens_le {ys : List (List UInt8)} {m : Nat} (h : ∀ y ∈ ys, y.length ≤ m) : Lib.lens ys ≤ ys.length * m := by
  induction ys with
  | nil => simp [Lib.lens]
  | cons y ys ih =>
    have h1 := ih (fun x hx => h x (by simp [hx]))
    have h2 := h y (by simp)
    simp only [Lib.lens, List.map_cons, List.sum_cons, List.length_cons] at h1 ⊢
    rw [Nat.succ_mul]
    omega
theorem join_len {ys : List (List UInt8)} {m : Nat} (sep : List UInt8) (h : ∀ y ∈ ys, y.length ≤ m) : (Lib.join ys sep).length ≤ ys.length * (m + sep.length) := by
  cases ys with
  | nil => simp [Lib.join_nil]
  | cons y r =>
    rw [Lib.join_cons, List.length_append, Lib.joinTail_length]
    have h1 := lens_le (ys := r) (fun x hx => h x (by simp [hx]))
    have h2 := h y (by simp)
    simp only [List.length_cons]
    rw [Nat.succ_mul, Nat.mul_add, Nat.mul_comm sep.length]
    omega
/-- A few short parts. -/
def Few (xs : List (List UInt8)) : Prop := xs.length ≤ 12 ∧ ∀ x ∈ xs, x.length ≤ 120
theorem Few.each {xs : List (List UInt8)} (h : Few xs) : xs.length ≤ 1000 ∧ ∀ x ∈ xs, x.length ≤ 1000000 := ⟨by have := h.1; omega, fun x hx => by have := h.2 x hx; omega⟩
theorem enc_len {n : Nat} (h : n < 9223372036854775808) : (Pk.enc n).length ≤ 9 := Pk.enc_len9 h
theorem textL_len {x : List UInt8} (h : x.length ≤ 120) : (Pt.textL x).length ≤ 129 := by
  unfold Pt.textL
  rw [List.length_append]
  have := enc_len (show x.length < 9223372036854775808 by omega)
  omega
theorem Few.joined {xs : List (List UInt8)} (h : Few xs) : (Nm.joined xs).length ≤ 2892 := by
  rw [← Pt.joined_join]
  have h1 := join_len (ys := xs.map Nm.quote) (m := 240) [47] (fun y hy => by
    obtain ⟨x, hx, rfl⟩ := List.mem_map.1 hy
    have := Nm.quote_length x
    have := h.2 x hx
    omega)
  rw [List.length_map] at h1
  have h2 := h.1
  have h3 : xs.length * (240 + [(47 : UInt8)].length) ≤ 12 * 241 := Nat.mul_le_mul h2 (by simp)
  omega
theorem Few.flat {xs : List (List UInt8)} (h : Few xs) : (xs.map Pt.textL).flatten.length ≤ 1548 := by
  rw [← Pt.join_empty]
  have h1 := join_len (ys := xs.map Pt.textL) (m := 129) [] (fun y hy => by
    obtain ⟨x, hx, rfl⟩ := List.mem_map.1 hy
    exact textL_len (h.2 x hx))
  rw [List.length_map] at h1
  have h2 := h.1
  have h3 : xs.length * (129 + ([] : List UInt8).length) ≤ 12 * 129 := Nat.mul_le_mul h2 (by simp)
  omega
theorem Few.take {xs : List (List UInt8)} (h : Few xs) (k : Nat) : Few (xs.take k) := ⟨by rw [List.length_take]; have := h.1; omega, fun x hx => h.2 x (List.mem_of_mem_take hx)⟩
theorem Few.code {xs : List (List UInt8)} (h : Few xs) : (Pt.code xs).length ≤ 1557 := by
  unfold Pt.code
  rw [List.length_append]
  have h1 := enc_len (show xs.length < 9223372036854775808 by have := h.1; omega)
  have h2 := h.flat
  omega

/-! ### The program's -/
set_option maxRecDepth 20000 in
theorem text_any (v : Value) (xs : List (List UInt8)) (w : World) (hf : Few xs) (hv : strsAt w v xs) :
    Calls Tryz.prog 42 #[v] w fun e w' => e = .returned (.string ⟨(Nm.joined xs).toArray⟩) ∧ Below w.heap.size w w' := by
  have HE := each_quote v xs w hf.each.1 hf.each.2 hv
  have HJ : ∀ (u : Value) (w1 : World), w1.ownsRow w.heap.size 9 1 u xs.length (cellsS (xs.map Nm.quote)) → Calls Tryz.prog 86 #[u, .string ⟨#[47]⟩] w1 fun e w' => e = .returned (.string ⟨(Nm.joined xs).toArray⟩) ∧ Below w1.heap.size w1 w' := fun u w1 h => by
    have hl := hf.joined
    have hc := join_own (ys := xs.map Nm.quote) [47] (by rw [List.length_map]; exact h) (by rw [List.length_map]; have := hf.1; omega) (by rw [Pt.joined_join]; omega)
    rw [Pt.joined_join] at hc
    exact hc
  clear hv hf
  go_enter Tryz.func42, Tryz.ntmps42
  go_wp2_with (go_at_call 87; (with_reducible refine HE.mono ?_))
  rintro e w1 ⟨u, rfl, hown, hb1⟩
  have HJ1 := HJ u w1 hown
  go_wp2_with (go_at_call 86; (with_reducible refine HJ1.mono ?_); rintro e w2 ⟨rfl, hb2⟩)
  go_ret
  exact ⟨rfl, bchain hb1 hb2⟩

/-! ### The document's -/
theorem joined_first {xs : List (List UInt8)} (h : 0 < xs.length) : Nm.joined (xs.take 1) = Nm.quote xs[0] := by
  cases xs with
  | nil => simp at h
  | cons a r => simp [Nm.joined]
theorem app_slash (a b : List UInt8) : (⟨a.toArray⟩ : ByteArray) ++ ⟨#[47]⟩ ++ ⟨b.toArray⟩ = ⟨(a ++ 47 :: b).toArray⟩ := by
  apply bytes_of
  rw [ByteArray.data_append, ByteArray.data_append, Array.toList_append, Array.toList_append]
  simp
theorem app_empty (b : List UInt8) : (⟨#[]⟩ : ByteArray) ++ ⟨b.toArray⟩ = ⟨b.toArray⟩ := by
  apply bytes_of
  rw [ByteArray.data_append, Array.toList_append]
  simp
/-- The text so far. -/
def joinV (xs : List (List UInt8)) (k : Nat) : Value := .string ⟨(Nm.joined (xs.take k)).toArray⟩

/-- The bytes so far. -/
def codeTo (xs : List (List UInt8)) (k : Nat) : List UInt8 := Pk.enc xs.length ++ ((xs.take k).map Pt.textL).flatten
theorem codeTo_zero (xs : List (List UInt8)) : codeTo xs 0 = Pk.enc xs.length := by simp [codeTo]
theorem codeTo_all (xs : List (List UInt8)) : codeTo xs xs.length = Pt.code xs := by simp [codeTo, Pt.code]
def codeV (xs : List (List UInt8)) (k : Nat) : Value := .string ⟨(codeTo xs k).toArray⟩

end Go.Proofs.YthlhopdlkkeohaaGreatDoor.U
/- The walks of the document's Line and Text of a view. -/
namespace Go.Proofs.YthlhopdlkkeohaaGreatDoor.O
open Go.RowKit

/-- A value's text, and an entry's line. -/
abbrev vtx (v : Rg.Va) : List UInt8 := Vl.text v.1 v.2.1 v.2.2
abbrev lineE (e : Vw.Entry) : List UInt8 := Vw.line Nm.joined vtx Lib.itoa e
/-- An entry whose line can be told. -/
structure EFine (e : Vw.Entry) : Prop where
  few : U.Few e.p
  right : ∀ v ∈ e.l, Vl.Right v.1 v.2.1 v.2.2
  len : e.l.length ≤ 1000000
  lo : -9223372036854775808 ≤ e.n
  hi : e.n ≤ 9223372036854775807
theorem vtx_len {v : Rg.Va} (h : Vl.Right v.1 v.2.1 v.2.2) : (vtx v).length ≤ 130 := Vl.text_len h
theorem blanks_le {l : List Rg.Va} (h : ∀ v ∈ l, Vl.Right v.1 v.2.1 v.2.2) (hn : l.length ≤ 1000000) (k : Nat) : (Vw.blanks vtx (l.take k)).length ≤ 131000000 := by
  have h1 := Vw.blanks_len vtx (B := 130) (l := l.take k) fun v hv => vtx_len (h v (List.mem_of_mem_take hv))
  have h2 : (l.take k).length * (130 + 1) ≤ 1000000 * 131 := Nat.mul_le_mul (by rw [List.length_take]; omega) (Nat.le_refl _)
  omega
theorem lineE_len {e : Vw.Entry} (h : EFine e) : (lineE e).length ≤ 131003000 := by
  have h1 := h.few.joined
  have h2 := blanks_le h.right h.len e.l.length
  rw [List.take_length] at h2
  have h3 := N.itoa_len h.lo h.hi
  unfold lineE Vw.line
  rw [List.length_append, List.length_append, Vw.sign_len]
  split <;> omega
/-- The values' texts so far. -/
def blV (l : List Rg.Va) (k : Nat) : Value := .string ⟨(Vw.blanks vtx (l.take k)).toArray⟩

/-- The lines so far. -/
abbrev linesE (l : List Vw.Entry) : List UInt8 := Vw.text Nm.joined vtx Lib.itoa l
def lnV (xs : List EE) (k : Nat) : Value := .string ⟨(linesE ((xs.map Prod.fst).take k)).toArray⟩
theorem linesE_le {l : List Vw.Entry} (h : ∀ e ∈ l, EFine e) (hn : l.length ≤ 100000) (k : Nat) : (linesE (l.take k)).length ≤ 13200000000000 := by
  have h1 := Vw.text_len Nm.joined vtx Lib.itoa (M := 131003000) (l := l.take k) fun e he => lineE_len (h e (List.mem_of_mem_take he))
  have h2 : (l.take k).length * (131003000 + 1) ≤ 100000 * 131003001 := Nat.mul_le_mul (by rw [List.length_take]; omega) (Nat.le_refl _)
  unfold linesE
  omega

end Go.Proofs.YthlhopdlkkeohaaGreatDoor.O
