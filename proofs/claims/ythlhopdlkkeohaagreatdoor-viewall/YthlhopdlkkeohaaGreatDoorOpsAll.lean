/- Operations as plain mathematics: how references stand, which rise, what is wrong with an operation, its bytes · The walks of 'lastByte' and 'number' · The walks of the reader's methods, over a reader that lies in memory of its own · What was told is read again: the walks of Many and Text over a reader whose text begins so · Small laws on worlds that all texts of this seat share · The walks of the dot's own functions, and of the document's: is it right, how two stand. -/
import Derived.Test.YthlhopdlkkeohaaGreatDoorPlainAll
import Derived.Test.YthlhopdlkkeohaaGreatDoorChecked
import Derived.WalkKit
import Derived.Deep.QuietTactic
import Derived.BigQuiet
import Derived.WalkSmall
import Derived.Laws.IdiomStrings
import Derived.Laws.BytesArg
import Derived.Deep.RegionWith
import Derived.WalkLawsBesides
import Derived.Deep.RegionHeld3
import Derived.Deep.Quiet
/- Operations as plain mathematics: how references stand, which rise, what is wrong with an operation, its bytes. -/
namespace Go.Proofs.YthlhopdlkkeohaaGreatDoor

/-- A dot; a reference: a dot and a place. -/
abbrev D := Int × Int
abbrev U := D × Int

namespace Os
/-! ### How references stand -/
def comp (x y : U) : Int := Dt.two (Dt.comp x.1.1 x.1.2 y.1.1 y.1.2) (Dt.compareInt x.2 y.2)
abbrev lt (x y : U) : Prop := x.1.1 < y.1.1 ∨ (x.1.1 = y.1.1 ∧ (x.1.2 < y.1.2 ∨ (x.1.2 = y.1.2 ∧ x.2 < y.2)))
theorem comp_cases (x y : U) : (lt x y ∧ comp x y = -1) ∨ (x = y ∧ comp x y = 0) ∨ (lt y x ∧ comp x y = 1) := by
  obtain ⟨⟨a, b⟩, c⟩ := x
  obtain ⟨⟨a', b'⟩, c'⟩ := y
  simp only [comp, Dt.two, lt, Prod.mk.injEq]
  have h1 := Dt.comp_cases a b a' b'
  have h2 := Dt.compareInt_cases c c'
  generalize Dt.comp a b a' b' = z at *
  generalize Dt.compareInt c c' = q at *
  split <;> omega
theorem lt_trans {x y z : U} (h : lt x y) (k : lt y z) : lt x z := by simp only [lt] at *; omega
theorem lt_irrefl (x : U) : ¬ lt x x := by simp only [lt]; omega
theorem lt_ne {x y : U} (h : lt x y) : x ≠ y := fun e => lt_irrefl x (by rw [← e] at h; exact h)
theorem comp_zero {x y : U} : comp x y = 0 ↔ x = y := by
  rcases comp_cases x y with ⟨h, e⟩ | ⟨h, e⟩ | ⟨h, e⟩
  · exact ⟨fun k => by omega, fun k => absurd k (lt_ne h)⟩
  · exact ⟨fun _ => h, fun _ => e⟩
  · exact ⟨fun k => by omega, fun k => absurd k.symm (lt_ne h)⟩
theorem comp_neg {x y : U} : comp x y = -1 ↔ lt x y := by
  rcases comp_cases x y with ⟨h, e⟩ | ⟨h, e⟩ | ⟨h, e⟩
  · exact ⟨fun _ => h, fun _ => e⟩
  · exact ⟨fun k => by omega, fun k => absurd h (lt_ne k)⟩
  · exact ⟨fun k => by omega, fun k => absurd (lt_trans h k) (lt_irrefl y)⟩
theorem cf_lt (x y : U) : decide (comp x y < 0) = decide (lt x y) := by
  rw [decide_eq_decide, ← comp_neg]
  rcases comp_cases x y with ⟨_, e⟩ | ⟨_, e⟩ | ⟨_, e⟩ <;> omega
theorem cf_eq (x y : U) : decide (comp x y = 0) = decide (x = y) := by rw [decide_eq_decide]; exact comp_zero

/-! ### References that rise -/
def ok (u : U) : Bool := Dt.right u.1.1 u.1.2 && decide (0 ≤ u.2) && decide (u.2 ≤ 15)
abbrev Ups (l : List U) : Prop := (∀ u ∈ l, ok u = true) ∧ l.Pairwise lt
def ups (l : List U) : Bool := decide (Ups l)
theorem ups_iff {l : List U} : ups l = true ↔ Ups l := by simp [ups]
theorem ups_nil : Ups [] := ⟨fun u h => by simp at h, List.Pairwise.nil⟩
theorem ups_step {l : List U} {k : Nat} (h : Ups (l.take k)) (hk : k < l.length) (ho : ok l[k] = true) (hl : k = 0 ∨ ∃ h1 : k - 1 < l.length, lt l[k - 1] l[k]) : Ups (l.take (k + 1)) := by
  rw [List.take_succ_eq_append_getElem hk]
  refine ⟨fun u hu => ?_, List.pairwise_append.2 ⟨h.2, List.pairwise_singleton _ _, fun a ha b hb => ?_⟩⟩
  · rcases List.mem_append.1 hu with hu | hu
    · exact h.1 u hu
    · rw [List.mem_singleton.1 hu]; exact ho
  · rw [List.mem_singleton.1 hb]
    obtain ⟨i, hi, rfl⟩ := List.mem_iff_getElem.1 ha
    rw [List.length_take] at hi
    rcases hl with rfl | ⟨h1, hl⟩
    · omega
    · rw [List.getElem_take]
      by_cases e : i = k - 1
      · subst e; exact hl
      · have := List.pairwise_iff_getElem.1 h.2 i (k - 1) (by rw [List.length_take]; omega) (by rw [List.length_take]; omega) (by omega)
        rw [List.getElem_take, List.getElem_take] at this
        exact lt_trans this hl
theorem not_ok {l : List U} {k : Nat} (hk : k < l.length) (ho : ok l[k] = false) : ups l = false := by
  cases e : ups l with
  | false => rfl
  | true => rw [(ups_iff.1 e).1 _ (List.getElem_mem hk)] at ho; cases ho
theorem not_lt {l : List U} {k : Nat} (hk : k + 1 < l.length) (ho : ¬ lt l[k] l[k + 1]) : ups l = false := by
  cases e : ups l with
  | false => rfl
  | true => exact absurd (List.pairwise_iff_getElem.1 (ups_iff.1 e).2 k (k + 1) (by omega) hk (by omega)) ho
theorem ok_parts (u : U) : ok u = (Dt.right u.1.1 u.1.2 && decide (0 ≤ u.2) && decide (u.2 ≤ 15)) := rfl

/-! ### Operations -/
structure Op where
  k : Int
  p : List (List UInt8)
  vk : Int
  vn : Int
  vs : List UInt8
  n : Int
  l : List U
/-- The leaf of a kind. -/
def leaf (k : Int) : Int := if k = 1 then 1 else if k = 2 ∨ k = 4 then 2 else if k = 3 then 3 else 0
def hv (k : Int) : Bool := decide (k = 1 ∨ k = 2 ∨ k = 4)
def ha (k : Int) : Bool := decide (k = 3)
def hs (k : Int) : Bool := decide (k = 1 ∨ k = 4 ∨ k = 5)
/-- The value, the amount that the kind asks for, or none. -/
def rv (o : Op) : Bool := if hv o.k = true then Vl.right o.vk o.vn o.vs else decide (o.vk = 0 ∧ o.vn = 0 ∧ o.vs = [])
def ra (o : Op) : Bool := if ha o.k = true then decide (o.n ≠ 0 ∧ -2147483647 ≤ o.n ∧ o.n ≤ 2147483647) else decide (o.n = 0)
/-- What is wrong with an operation. -/
def check (o : Op) : Nat :=
  if o.k < 1 ∨ 5 < o.k then 18 else if Pt.check o.p ≠ 0 then Pt.check o.p else
  if rv o = false ∨ ra o = false ∨ (hs o.k = false ∧ 0 < o.l.length) then 2 else if 256 < o.l.length then 7 else if ups o.l = false then 2 else 0
def same (a b : Op) : Bool := decide (a.k = b.k ∧ a.p = b.p ∧ (a.vk = b.vk ∧ a.vn = b.vn ∧ a.vs = b.vs) ∧ a.n = b.n ∧ a.l = b.l)
def gone (o : Op) : Bool := decide (o.k = 0 ∧ o.p = [] ∧ (o.vk = 0 ∧ o.vn = 0 ∧ o.vs = []) ∧ o.n = 0 ∧ o.l = [])
def short (o : Op) : Bool := Pt.short o.p && decide (o.vs.length ≤ 200) && decide (o.l.length ≤ 300)
theorem same_self (a : Op) : same a a = true := by simp [same]
theorem gone_is {o : Op} (h : gone o = true) : o = ⟨0, [], 0, 0, [], 0, []⟩ := by
  obtain ⟨k, p, vk, vn, vs, n, l⟩ := o
  simp only [gone, decide_eq_true_eq] at h
  obtain ⟨h1, h2, ⟨h3, h4, h5⟩, h6, h7⟩ := h
  subst h1 h2 h3 h4 h5 h6 h7
  rfl
theorem check_zero {o : Op} (h : check o = 0) : 1 ≤ o.k ∧ o.k ≤ 5 ∧ Pt.check o.p = 0 ∧ rv o = true ∧ ra o = true ∧ (hs o.k = true ∨ o.l = []) ∧ o.l.length ≤ 256 ∧ ups o.l = true := by
  unfold check at h
  split at h
  · omega
  · split at h
    · omega
    · split at h
      · omega
      · split at h
        · omega
        · split at h
          · omega
          · rename_i h1 h2 h3 h4 h5
            simp only [not_or, Bool.not_eq_false, not_and] at h3
            refine ⟨by omega, by omega, by omega, h3.1, h3.2.1, ?_, by omega, by simpa using h5⟩
            by_cases e : hs o.k = true
            · exact .inl e
            · have := h3.2.2 (by simpa using e)
              exact .inr (List.eq_nil_of_length_eq_zero (by omega))

/-! ### Bytes -/
def rcode (u : U) : List UInt8 := (Pk.enc u.1.1.toNat ++ Pk.enc u.1.2.toNat) ++ Pk.enc u.2.toNat
def rcodes (l : List U) : List UInt8 := l.flatMap rcode
def lcode (l : List U) : List UInt8 := Pk.enc l.length ++ rcodes l
/-- So many of the references' bytes, behind others. -/
def rTo (l : List U) (s : List UInt8) (k : Nat) : List UInt8 := s ++ rcodes (l.take k)
theorem rTo_zero (l : List U) (s : List UInt8) : rTo l s 0 = s := by simp [rTo, rcodes]
theorem rTo_all (l : List U) (s : List UInt8) : rTo l s l.length = s ++ rcodes l := by simp [rTo]
theorem rcodes_cons (u : U) (l : List U) : rcodes (u :: l) = rcode u ++ rcodes l := rfl
/-- The numbers of right references are small. -/
theorem ok_small {u : U} (h : ok u = true) : (0 ≤ u.1.1 ∧ u.1.1 < 16) ∧ (1 ≤ u.1.2 ∧ u.1.2 ≤ 1048576) ∧ 0 ≤ u.2 ∧ u.2 ≤ 15 := by
  simp only [ok, Bool.and_eq_true, decide_eq_true_eq] at h
  have := Dt.right_iff.1 h.1.1
  omega
theorem rcode_len {u : U} (h : ok u = true) : (rcode u).length ≤ 27 := by
  have hs := ok_small h
  have h1 := Pk.enc_len9 (n := u.1.1.toNat) (by omega)
  have h2 := Pk.enc_len9 (n := u.1.2.toNat) (by omega)
  have h3 := Pk.enc_len9 (n := u.2.toNat) (by omega)
  simp only [rcode, List.length_append]
  omega
theorem rcode_pos (u : U) : 1 ≤ (rcode u).length := by
  have := Pk.enc_pos u.1.1.toNat
  simp only [rcode, List.length_append]
  omega
theorem rcodes_len : ∀ {l : List U}, (∀ u ∈ l, ok u = true) → (rcodes l).length ≤ 27 * l.length
  | [], _ => by simp [rcodes]
  | u :: l, h => by
    have h1 := rcodes_len (l := l) (fun x hx => h x (by simp [hx]))
    have h2 := rcode_len (h u (by simp))
    rw [rcodes_cons, List.length_append, List.length_cons]
    omega
theorem rcodes_ge : ∀ l : List U, l.length ≤ (rcodes l).length
  | [] => by simp
  | u :: l => by
    have h1 := rcodes_ge l
    have h2 := rcode_pos u
    rw [rcodes_cons, List.length_append, List.length_cons]
    omega
/-- An operation's bytes, behind its kind and path. -/
def tail (o : Op) : List UInt8 := (if hv o.k = true then Vl.code o.vk o.vn o.vs else []) ++ ((if ha o.k = true then Pk.enc (Vl.fold o.n).toNat else []) ++ (if hs o.k = true then lcode o.l else []))
def code (o : Op) : List UInt8 := if gone o = true then Pk.enc o.k.toNat else Pk.enc o.k.toNat ++ (Pt.code o.p ++ tail o)

/-! ### What is named once -/
theorem ups_nodup {l : List U} (h : Ups l) : l.Nodup := h.2.imp lt_ne
theorem count_le {l : List U} (h : Ups l) (x : U) : l.count x ≤ 1 := List.nodup_iff_count.1 (ups_nodup h)  x
end Os
end Go.Proofs.YthlhopdlkkeohaaGreatDoor
/- The walks of 'lastByte' and 'number'. -/
namespace Go.Proofs.YthlhopdlkkeohaaGreatDoor
open Go.RowKit

theorem ret_int {k : IntKind} {a b : Int} (h : a = b) : Ending.returned (.int k a) = .returned (.int k b) := by rw [h]
theorem size_len (s : ByteArray) : s.data.toList.length = s.size := by simp
theorem get_data (s : ByteArray) (k : Nat) (h : k < s.size) : s.data.toList[k]'(by simpa using h) = s[k] := rfl

theorem ret3 {a a' c c' : Int} {b b' : ByteArray} (h1 : a = a') (h2 : b = b') (h3 : c = c') : Ending.returned (.tuple #[.int .i64 a, .string b, .int .i64 c]) = .returned (.tuple #[.int .i64 a', .string b', .int .i64 c']) := by rw [h1, h2, h3]
/-- What 'number' tells, as the program's values. -/
def numV (l : List UInt8) : Value := .tuple #[.int .i64 ((Pk.num l).1 : Nat), .string ⟨(Pk.num l).2.1.toArray⟩, .int .i64 ((Pk.num l).2.2 : Nat)]

theorem extract_high (s : ByteArray) (k : Nat) : s.extract k s.size = ⟨(s.data.toList.drop k).toArray⟩ := by
  apply ByteArray.ext
  apply Array.toList_inj.1
  simp only [ByteArray.data_extract, Array.toList_extract, List.extract_eq_take_drop]
  exact List.take_of_length_le (by simp)

end Go.Proofs.YthlhopdlkkeohaaGreatDoor
/- The walks of the reader's methods, over a reader that lies in memory of its own. -/
namespace Go.Proofs.YthlhopdlkkeohaaGreatDoor
open Go.RowKit

/-- All that was there is as it was, but for one block. -/
structure But (b : Nat) (w w' : World) : Prop where
  os : w'.os = w.os
  tape : w'.tape = w.tape
  output : w'.output = w.output
  size : w.heap.size ≤ w'.heap.size
  block : ∀ k, k < w.heap.size → k ≠ b → w'.heap[k]? = w.heap[k]?
theorem But.refl (b : Nat) (w : World) : But b w w := ⟨rfl, rfl, rfl, Nat.le_refl _, fun _ _ _ => rfl⟩
theorem But.trans {b : Nat} {a c d : World} (h : But b a c) (k : But b c d) : But b a d :=
  ⟨k.os.trans h.os, k.tape.trans h.tape, k.output.trans h.output, Nat.le_trans h.size k.size, fun i hi hb => (k.block i (Nat.lt_of_lt_of_le hi h.size) hb).trans (h.block i hi hb)⟩
theorem But.of {b : Nat} {w w' : World} (h : Below w.heap.size w w') : But b w w' := ⟨h.os, h.tape, h.output, h.size, fun k hk _ => h.block k hk⟩
theorem But.below {b B : Nat} {w w' : World} (h : But b w w') (hB : B ≤ b) (hb : B ≤ w.heap.size) : Below B w w' :=
  ⟨h.os, h.tape, h.output, h.size, fun k hk => h.block k (Nat.lt_of_lt_of_le hk hb) (Nat.ne_of_lt (Nat.lt_of_lt_of_le hk hB))⟩
theorem But.cell {b : Nat} {w w' : World} {a : Addr} {v : Value} (h : But b w w') (ha : w.cell? a = some v) (hne : a.block ≠ b) : w'.cell? a = some v :=
  (World.cell?_of_block (w := w) (h.block a.block (World.block_lt_of_cell? w a ha) hne)).trans ha
theorem But.frozen {b : Nat} {w w' : World} {a : Addr} {v : Value} {f : Bool} (h : But b w w') (ha : w.cell? a = some v) (hf : w.frozen? a = f) (hne : a.block ≠ b) : w'.frozen? a = f :=
  (World.frozen?_of_block (w := w) (h.block a.block (World.block_lt_of_cell? w a ha) hne)).trans hf
theorem But.set (w : World) (b o : Nat) (v : Value) : But b w (w.setCell ⟨b, o, none⟩ v) := by
  have h := (Below.refl 0 w).setCell (p := ⟨b, o, none⟩) (Nat.zero_le _) v
  exact ⟨h.os, h.tape, h.output, h.size, fun k _ hk => Below.heap_setCell w ⟨b, o, none⟩ v k hk⟩

/-- A reader at a block: what is left, and what is wrong. -/
structure Rd (w : World) (b : Nat) (l : List UInt8) (f : Nat) : Prop where
  left : w.cell? ⟨b, 0, none⟩ = some (.string ⟨l.toArray⟩)
  bad : w.cell? ⟨b, 1, none⟩ = some (.int .i64 (f : Int))
  free0 : w.frozen? ⟨b, 0, none⟩ = false
  free1 : w.frozen? ⟨b, 1, none⟩ = false
theorem Rd.lt {w : World} {b : Nat} {l : List UInt8} {f : Nat} (h : Rd w b l f) : b < w.heap.size := World.block_lt_of_cell? w ⟨b, 0, none⟩ h.left
theorem Rd.below {w w' : World} {b : Nat} {l : List UInt8} {f B : Nat} (h : Rd w b l f) (hb : Below B w w') (hB : b < B) : Rd w' b l f :=
  ⟨(hb.cell (p := ⟨b, 0, none⟩) hB).trans h.left, (hb.cell (p := ⟨b, 1, none⟩) hB).trans h.bad, (hb.frozen (p := ⟨b, 0, none⟩) hB).trans h.free0, (hb.frozen (p := ⟨b, 1, none⟩) hB).trans h.free1⟩

/-- Behind a number: what is told, what is left, what is wrong. -/
def took (l : List UInt8) (n : Nat) (m : List UInt8) (x : Nat) : Nat × List UInt8 × Nat := if x = 0 then (n, m, 0) else (0, l, x)
theorem mk_size (l : List UInt8) : (⟨l.toArray⟩ : ByteArray).size = l.length := by simp [ByteArray.size]
theorem mk_data (l : List UInt8) : (⟨l.toArray⟩ : ByteArray).data.toList = l := by simp

/-- What 'Int' does to a reader. -/
def rdInt (l : List UInt8) (f : Nat) : Nat × List UInt8 × Nat := if f = 0 then took l (Pk.num l).1 (Pk.num l).2.1 (Pk.num l).2.2 else (0, l, f)
theorem num_len (l : List UInt8) : (Pk.num l).2.1.length ≤ l.length := by
  unfold Pk.num
  split
  · simp
  · split
    · simp
    · split
      · simp
      · simp
theorem rdInt_len (l : List UInt8) (f : Nat) : (rdInt l f).2.1.length ≤ l.length := by
  unfold rdInt took; split
  · split
    · exact num_len l
    · simp
  · simp
/-- What 'End' tells. -/
def rdEnd (l : List UInt8) (f : Nat) : Nat := if f = 0 then (if l.length = 0 then 0 else 3) else f
end Go.Proofs.YthlhopdlkkeohaaGreatDoor
/- What was told is read again: the walks of Many and Text over a reader whose text begins so. -/
namespace Go.Proofs.YthlhopdlkkeohaaGreatDoor
open Go.RowKit

theorem below_new (w : World) (o : Obj) : Below w.heap.size w (w.alloc o) := (Below.refl _ w).alloc (Nat.le_refl _) o
theorem But.new {b : Nat} {A W : World} (h : But b A W) (o : Obj) : But b A (W.alloc o) := h.trans (But.of (below_new W o))
theorem Rd.blk {w w' : World} {b : Nat} {l : List UInt8} {f : Nat} (h : Rd w b l f) (hb : w'.heap[b]? = w.heap[b]?) : Rd w' b l f :=
  ⟨(World.cell?_of_block (w := w) hb).trans h.left, (World.cell?_of_block (w := w) hb).trans h.bad, (World.frozen?_of_block (w := w) hb).trans h.free0, (World.frozen?_of_block (w := w) hb).trans h.free1⟩
theorem Rd.on {w w' : World} {b : Nat} {l : List UInt8} {f : Nat} (h : Rd w b l f) (hb : Below w.heap.size w w') : Rd w' b l f := h.below hb h.lt
theorem Rd.new {w : World} {b : Nat} {l : List UInt8} {f : Nat} (h : Rd w b l f) (o : Obj) : Rd (w.alloc o) b l f := h.on (below_new w o)
theorem Rd.setOther {w : World} {b : Nat} {l : List UInt8} {f : Nat} (h : Rd w b l f) {p : Addr} (hp : p.block ≠ b) (v : Value) : Rd (w.setCell p v) b l f := h.blk (Below.heap_setCell w p v b (Ne.symm hp))

theorem cut_low (m : List UInt8) (n : Nat) : (⟨m.toArray⟩ : ByteArray).extract 0 n = ⟨(m.take n).toArray⟩ := by
  apply ByteArray.ext
  apply Array.toList_inj.1
  simp [ByteArray.data_extract]
/-! ### A row of one's own beside a reader -/
theorem own_but {w w' : World} {B s n g : Nat} {e : TypeId} {v : Value} {xs : List Value} (h : w.ownsRow B e s v n xs) (hb : But g w w') (hg : g < B) : w'.ownsRow B e s v n xs := by
  refine ⟨h.1, ?_⟩
  rcases h.2 with hn | ⟨q, cap, cur, hv, hbq, hq, r⟩
  · exact Or.inl hn
  · exact Or.inr ⟨q, cap, cur, hv, hbq, (hb.block q (Array.getElem?_eq_some_iff.1 hq).1 (by omega)).trans hq, r⟩
theorem But.grown {b : Nat} {A W W' : World} {row : Option Nat} (h : But b A W) (hg : W.grownBy W' row) (hr : ∀ g, row = some g → A.heap.size ≤ g) : But b A W' :=
  ⟨hg.os.trans h.os, hg.tape.trans h.tape, hg.output.trans h.output, Nat.le_trans h.size hg.size, fun k hk hne => (hg.block k (Nat.lt_of_lt_of_le hk h.size) (fun e => by have := hr k e.symm; omega)).trans (h.block k hk hne)⟩
theorem Rd.grown {w w' : World} {b : Nat} {l : List UInt8} {f : Nat} {row : Option Nat} (h : Rd w b l f) (hg : w.grownBy w' row) (hne : some b ≠ row) : Rd w' b l f := h.blk (hg.block b h.lt hne)

end Go.Proofs.YthlhopdlkkeohaaGreatDoor
/- Small laws on worlds that all texts of this seat share. -/
namespace Go.Proofs.YthlhopdlkkeohaaGreatDoor
open Go.RowKit
theorem bchain {a b c : World} (h : Below a.heap.size a b) (k : Below b.heap.size b c) : Below a.heap.size a c := h.trans (k.mono h.size)
theorem below_new2 (w : World) (o p : Obj) : Below w.heap.size w ((w.alloc o).alloc p) := bchain (below_new w o) (below_new _ p)
theorem below_new3 (w : World) (o p q : Obj) : Below w.heap.size w (((w.alloc o).alloc p).alloc q) := bchain (below_new2 w o p) (below_new _ q)
/-- What a cell holds, it holds behind a call that leaves all that was there. -/
theorem keep_cell {W w1 : World} {a : Addr} {v : Value} (hb : Below W.heap.size W w1) (h : W.cell? a = some v) : w1.cell? a = some v := (hb.cell (World.block_lt_of_cell? W a h)).trans h
theorem cat_lists (a b : List UInt8) : (⟨a.toArray⟩ : ByteArray) ++ ⟨b.toArray⟩ = ⟨(a ++ b).toArray⟩ := by apply ByteArray.ext; simp
theorem add_lists {x y : List UInt8} (h : ¬ 9223372036854775807 < x.length + y.length) (w : World) : (binOp .add 9 (.string ⟨x.toArray⟩) (.string ⟨y.toArray⟩)).run Tryz.prog w = .ok (.string ⟨(x ++ y).toArray⟩) w := by
  go_simp
  rw [cat_lists]
end Go.Proofs.YthlhopdlkkeohaaGreatDoor
/- The walks of the dot's own functions, and of the document's: is it right, how two stand. -/
namespace Go.Proofs.YthlhopdlkkeohaaGreatDoor.D
open Go.RowKit

/-- A dot, an operation, as the program holds them. -/
abbrev dotV (r n : Int) : Value := .agg #[.int .i64 r, .int .i64 n]
abbrev refV (r n i : Int) : Value := .agg #[.int .i64 r, .int .i64 n, .int .i64 i]

theorem refRight_any (r n : Int) (w : World) : Calls Tryz.prog 102 #[dotV r n] w fun e w' => e = .returned (.bool (Dt.right r n)) ∧ Below w.heap.size w w' := by
  by_cases h0 : 0 ≤ r
  rotate_left
  · rw [show Dt.right r n = false by rw [Bool.eq_false_iff]; intro h; rw [Dt.right_iff] at h; omega]
    have hd : decide (0 ≤ r) = false := decide_eq_false h0
    go_enter Tryz.func102, Tryz.ntmps102
    go_wp2
    go_ret
    exact ⟨rfl, below_new _ _⟩
  by_cases h1 : r ≤ 15
  rotate_left
  · rw [show Dt.right r n = false by rw [Bool.eq_false_iff]; intro h; rw [Dt.right_iff] at h; omega]
    have hd : decide (r ≤ 15) = false := decide_eq_false h1
    go_enter Tryz.func102, Tryz.ntmps102
    go_wp2
    go_ret
    exact ⟨rfl, below_new _ _⟩
  by_cases h2 : 1 ≤ n
  rotate_left
  · rw [show Dt.right r n = false by rw [Bool.eq_false_iff]; intro h; rw [Dt.right_iff] at h; omega]
    have hd : decide (1 ≤ n) = false := decide_eq_false h2
    go_enter Tryz.func102, Tryz.ntmps102
    go_wp2
    go_ret
    exact ⟨rfl, below_new _ _⟩
  by_cases h3 : n ≤ 1048576
  rotate_left
  · rw [show Dt.right r n = false by rw [Bool.eq_false_iff]; intro h; rw [Dt.right_iff] at h; omega]
    have hd : decide (n ≤ 1048576) = false := decide_eq_false h3
    go_enter Tryz.func102, Tryz.ntmps102
    go_wp2
    go_ret
    exact ⟨rfl, below_new _ _⟩
  rw [show Dt.right r n = true by rw [Dt.right_iff]; omega]
  go_enter Tryz.func102, Tryz.ntmps102
  go_wp2
  go_ret
  exact ⟨rfl, below_new _ _⟩

theorem ints_any (x y : Int) (w : World) : Calls Tryz.prog 134 #[.int .i64 x, .int .i64 y] w fun e w' => e = .returned (.int .i64 (Dt.compareInt x y)) ∧ w' = w := by
  rcases Dt.compareInt_cases x y with ⟨h, e⟩ | ⟨h, e⟩ | ⟨h, e⟩ <;> rw [e]
  · go_enter Tryz.func134, Tryz.ntmps134
    go_wp2
    go_ret
    exact ⟨rfl, rfl⟩
  · subst h
    go_enter Tryz.func134, Tryz.ntmps134
    go_wp2
    go_ret
    exact ⟨rfl, rfl⟩
  · have h' : ¬ x < y := by omega
    go_enter Tryz.func134, Tryz.ntmps134
    go_wp2
    go_ret
    exact ⟨rfl, rfl⟩

theorem refComp_any (r n r' n' : Int) (w : World) : Calls Tryz.prog 100 #[dotV r n, dotV r' n'] w fun e w' => e = .returned (.int .i64 (Dt.comp r n r' n')) ∧ Below w.heap.size w w' := by
  by_cases h : r = r'
  · subst h
    rw [show Dt.comp r n r n' = Dt.compareInt n n' by unfold Dt.comp Dt.two; rw [if_pos (Dt.compareInt_zero.2 rfl)]]
    go_enter Tryz.func100, Tryz.ntmps100
    go_wp2_with (go_at_call 134; refine (ints_any _ _ _).mono ?_; rintro e w1 ⟨rfl, rfl⟩)
    go_ret
    exact ⟨rfl, below_new2 _ _ _⟩
  · rw [show Dt.comp r n r' n' = Dt.compareInt r r' by unfold Dt.comp Dt.two; rw [if_neg (fun e => h (Dt.compareInt_zero.1 e))]]
    have hb : (r != r') = true := by simpa using h
    go_enter Tryz.func100, Tryz.ntmps100
    go_wp2_with (go_at_call 134; refine (ints_any _ _ _).mono ?_; rintro e w1 ⟨rfl, rfl⟩)
    go_ret
    exact ⟨rfl, below_new2 _ _ _⟩

end Go.Proofs.YthlhopdlkkeohaaGreatDoor.D
