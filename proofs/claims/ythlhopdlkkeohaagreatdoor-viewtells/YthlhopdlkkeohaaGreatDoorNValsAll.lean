/- Values' texts, as plain mathematics · The walks of the two 'Int's and the two 'Text's: a number's bytes, a text behind its length · The walk of the document's Digits · The walk of quoted (of a text that is UTF-8) · The walk of value.Text, of a right value. -/
import Derived.Test.YthlhopdlkkeohaaGreatDoorPlainAll
import Derived.Lib.ItoaLen
import Derived.Lib.Small
import Derived.Lib.Strings
import Derived.Lib.RuneBytes
import Derived.WalkKit
import Derived.Laws.IdiomStrings
import Derived.Laws.BytesArg
import Derived.Deep.RegionWith
import Derived.WalkLawsBesides
import Derived.Test.YthlhopdlkkeohaaGreatDoorCRefAll
import Derived.Deep.RegionHeld3
import Derived.Test.YthlhopdlkkeohaaGreatDoorValAll
import Derived.Test.YthlhopdlkkeohaaGreatDoorCharsAll
import Derived.Test.YthlhopdlkkeohaaGreatDoorRightsAll
/- Values' texts, as plain mathematics. -/
namespace Go.Proofs.YthlhopdlkkeohaaGreatDoor
namespace Nq
/-- A value is quoted so. -/
def isQ (b : UInt8) : Bool := b == 34 || b == 92
def quote (l : List UInt8) : List UInt8 := l.flatMap fun b => if isQ b = true then [92, b] else [b]
theorem quote_nil : quote [] = [] := rfl
theorem quote_cons (b : UInt8) (l : List UInt8) : quote (b :: l) = (if isQ b = true then [92, b] else [b]) ++ quote l := rfl
theorem quote_append (a b : List UInt8) : quote (a ++ b) = quote a ++ quote b := by simp [quote]
theorem isQ_high {b : UInt8} (h : 128 ≤ b.toNat) : isQ b = false := by
  simp only [isQ, Bool.or_eq_false_iff, beq_eq_false_iff_ne]
  constructor <;> (intro e; subst e; simp at h)
theorem quote_high {l : List UInt8} (h : ∀ x ∈ l, isQ x = false) : quote l = l := by
  induction l with
  | nil => rfl
  | cons b l ih =>
    rw [quote_cons, h b (by simp), ih (fun x hx => h x (by simp [hx]))]
    simp
theorem quote_length (l : List UInt8) : (quote l).length ≤ 2 * l.length := by
  induction l with
  | nil => simp [quote_nil]
  | cons b l ih =>
    rw [quote_cons, List.length_append, List.length_cons]
    split <;> simp <;> omega

/-- Is a character quoted? -/
def isQN (c : Nat) : Bool := c == 34 || c == 92
end Nq
namespace Vl
open Go.Lib

def tru : List UInt8 := [116, 114, 117, 101]
def fls : List UInt8 := [102, 97, 108, 115, 101]
theorem formatBool_eq (b : Bool) : formatBool b = if b then tru else fls := by cases b <;> decide +kernel
def quoted (l : List UInt8) : List UInt8 := 34 :: (Nq.quote l ++ [34])
/-- A right value's text. -/
def text (k n : Int) (l : List UInt8) : List UInt8 := if k = 1 then itoa n else if k = 2 then quoted l else if n = 1 then tru else fls
theorem text_str (l : List UInt8) : text 2 0 l = quoted l := rfl
theorem text_int (n : Int) : text 1 n [] = itoa n := rfl
theorem quoted_len (l : List UInt8) : (quoted l).length ≤ 2 * l.length + 2 := by
  have := Nq.quote_length l
  simp [quoted]; omega
theorem text_len {k n : Int} {l : List UInt8} (h : Right k n l) : (text k n l).length ≤ 130 := by
  have := h.len
  have := h.amount
  have := quoted_len l
  unfold text
  split
  · have := itoa_length_le n (by omega) (by omega); omega
  · split
    · omega
    · split <;> simp [tru, fls]


theorem decode_one (b : UInt8) (l : List UInt8) (h : b.toNat < 128) : decodeL (b :: l) = (b.toNat, 1) := by
  rcases Nm.chunk (b :: l) (by simp) with ⟨_, h2⟩ | ⟨h2, _⟩
  · simpa using h2
  · simp only [List.getD_cons_zero] at h2; omega
theorem rest_one (b : UInt8) (l : List UInt8) (h : b.toNat < 128) : Nm.rest (b :: l) = l := by
  unfold Nm.rest; rw [decode_one b l h]; rfl
theorem enc_one (b : UInt8) (h : b.toNat < 128) : encodeRune (b.toNat : Int) = [b] := by
  unfold encodeRune
  rw [encodeRuneZ_one (by omega) (by omega)]
  simp
theorem runes_some {l : List UInt8} (hne : l ≠ []) (h : utf l = true) : Nm.isBad l = false ∧ utf (Nm.rest l) = true := by
  unfold utf at *
  cases hb : Nm.isBad l with
  | true => rw [Nm.runes_bad hne hb] at h; cases h
  | false =>
    rw [Nm.runes_step hne hb] at h
    exact ⟨rfl, by simpa using h⟩

end Vl
end Go.Proofs.YthlhopdlkkeohaaGreatDoor
/- The walks of the two 'Int's and the two 'Text's: a number's bytes, a text behind its length. -/
namespace Go.Proofs.YthlhopdlkkeohaaGreatDoor
open Go.RowKit

/-- Bytes as cells. -/
def cellsOf (l : List UInt8) : List Value := l.map fun b => .int .u8 (b.toNat : Int)
theorem cellsOf_snoc (l : List UInt8) (b : UInt8) : cellsOf (l ++ [b]) = cellsOf l ++ [.int .u8 (b.toNat : Int)] := by simp [cellsOf]
theorem Tryz.info5 : (Tryz.prog.info? 5).map (fun i => (i.zero, i.size, i.bytes)) = some (some (.int .u8 0), 1, 1) := by kernel_rfl

theorem one_new (wr : World) (x : Value) : ∀ j u, [x][j]? = some u → (wr.alloc (.cells #[x] 5)).cell? ((⟨wr.heap.size, 0, none⟩ : Addr).add j) = some u := by
  intro j u hj
  match j, hj with
  | 0, hj => simp at hj; subst hj; simp [Addr.add]
theorem one_cell (n : Int) : ∀ u ∈ [Value.int .u8 n], u.oneCell' = true := by intro u hu; simp at hu; subst hu; rfl
theorem len_one {l : List UInt8} {k : Nat} (h : Hid (l.length ≤ k)) (hk : k ≤ 1000000) : l.length + 1 ≤ maxLen := by have := h.out; unfold maxLen; omega
theorem len_bytes {l : List UInt8} {k : Nat} (h : Hid (l.length ≤ k)) (hk : k ≤ 1000000) : (l.length + 1) * 1 ≤ 140737488355328 := by have := h.out; omega

theorem wrap_i64 {e : Int} (h : -9223372036854775808 ≤ e) (h' : e < 9223372036854775808) : IntKind.i64.wrap e = e := by
  simp [IntKind.wrap, IntKind.signed, IntKind.bits]; try split
  all_goals omega
theorem wrap_u8 {e : Int} (h : 0 ≤ e) (h' : e < 256) : IntKind.u8.wrap e = e := by
  simp [IntKind.wrap, IntKind.signed, IntKind.bits]; omega
theorem below_ahead {w w1 : World} (hb : Below w.drew.heap.size w.drew w1) (o : Obj) : Below w.heap.size w (w1.alloc o) :=
  ((Below.refl _ w).drew.trans hb).alloc hb.size o
theorem ret_str {a b : ByteArray} (h : a = b) : Ending.returned (.string a) = .returned (.string b) := by rw [h]
theorem cons_str (x : UInt8) (l : List UInt8) : (⟨#[x]⟩ : ByteArray) ++ ⟨l.toArray⟩ = ⟨(x :: l).toArray⟩ := by
  apply ByteArray.ext; simp

/-- A text behind its length. -/
def textL (l : List UInt8) : List UInt8 := Pk.enc l.length ++ l
theorem append_mk (l : List UInt8) (s : ByteArray) : (⟨l.toArray⟩ : ByteArray) ++ s = ⟨(l ++ s.data.toList).toArray⟩ := by
  apply ByteArray.ext; simp

end Go.Proofs.YthlhopdlkkeohaaGreatDoor
/- The walk of the document's Digits. -/
namespace Go.Proofs.YthlhopdlkkeohaaGreatDoor.N
open Go.RowKit

theorem bchain {a b c : World} (h : Below a.heap.size a b) (k : Below b.heap.size b c) : Below a.heap.size a c := h.trans (k.mono h.size)
theorem below_new (w : World) (o : Obj) : Below w.heap.size w (w.alloc o) := (Below.refl _ _).alloc (Nat.le_refl _) _
theorem below_new2 (w : World) (o p : Obj) : Below w.heap.size w ((w.alloc o).alloc p) := bchain (below_new w o) (below_new _ p)

/-- What a cell holds, it holds behind a call that leaves all that was there. -/
theorem keep_cell {W w1 : World} {a : Addr} {v : Value} (hb : Below W.heap.size W w1) (h : W.cell? a = some v) : w1.cell? a = some v := (hb.cell (World.block_lt_of_cell? W a h)).trans h

/-- One digit of ten. -/
theorem one_digit (d : Nat) (h : d < 10) : (⟨#[48, 49, 50, 51, 52, 53, 54, 55, 56, 57]⟩ : ByteArray).extract d (d + 1) = ⟨(Lib.decDigits d).toArray⟩ := by
  rw [Lib.decDigits_one h]
  have e : ∀ i : Fin 10, (⟨#[48, 49, 50, 51, 52, 53, 54, 55, 56, 57]⟩ : ByteArray).extract i.val (i.val + 1) = ⟨[UInt8.ofNat (48 + i.val)].toArray⟩ := by decide +kernel
  exact e ⟨d, h⟩
theorem digit_run (d : Nat) (h : d < 10) : ∀ wx, (Instr.slice 9 (.string ⟨#[48, 49, 50, 51, 52, 53, 54, 55, 56, 57]⟩) (some (.int .i64 (d : Int))) (some (.int .i64 ((d : Int) + 1))) none).run Tryz.prog wx = .ok (.string ⟨(Lib.decDigits d).toArray⟩) wx := by
  intro wx
  have hz : (⟨#[48, 49, 50, 51, 52, 53, 54, 55, 56, 57]⟩ : ByteArray).size = 10 := rfl
  have h1 := run_slice_string (P := Tryz.prog) wx 9 ⟨#[48, 49, 50, 51, 52, 53, 54, 55, 56, 57]⟩ .i64 .i64 (d : Int) ((d : Int) + 1) Tryz.underlying9 (by omega) (by omega) (by rw [hz]; omega)
  rw [h1, ← one_digit d h]
  congr 2
theorem dec_len {n : Nat} (h : n < 9223372036854775808) : (Lib.decDigits n).length ≤ 21 := by
  have := Lib.itoa_length_le (n : Int) (by omega) (by omega)
  rwa [Lib.itoa_nonneg] at this
theorem cat_lists (a b : List UInt8) : (⟨a.toArray⟩ : ByteArray) ++ ⟨b.toArray⟩ = ⟨(a ++ b).toArray⟩ := by apply ByteArray.ext; simp

set_option maxRecDepth 20000 in
theorem digits_nat (k : Nat) : ∀ (n : Nat) (w : World), n ≤ k → n < 9223372036854775808 →
    Calls Tryz.prog 47 #[.int .i64 (n : Int)] w fun e w' => e = .returned (.string ⟨(Lib.decDigits n).toArray⟩) ∧ Below w.heap.size w w' := by
  induction k with
  | zero =>
    intro n w hk hn
    obtain rfl : n = 0 := by omega
    have hd := digit_run 0 (by omega)
    go_enter Tryz.func47, Tryz.ntmps47
    go_wp2
    go_ret
    exact ⟨by rw [Lib.decDigits_one (by omega)]; rfl, Below.refl _ _⟩
  | succ k ih =>
    intro n w hk hn
    by_cases h : n < 10
    · have hi : (n : Int) < 10 := by omega
      have hd := digit_run n h
      go_enter Tryz.func47, Tryz.ntmps47
      go_wp2
      go_ret
      exact ⟨rfl, Below.refl _ _⟩
    · have hi : ¬ (n : Int) < 10 := by omega
      obtain ⟨m, hm⟩ : ∃ m, m = n / 10 := ⟨_, rfl⟩
      obtain ⟨d, hd⟩ : ∃ d, d = n % 10 := ⟨_, rfl⟩
      have hq : IntKind.i64.wrap ((n : Int) / 10) = (m : Int) := by rw [wrap_i64 (by omega) (by omega)]; omega
      have hr : (n : Int).tmod 10 = (d : Int) := by rw [Int.tmod_eq_emod_of_nonneg (by omega)]; omega
      have hw : IntKind.i64.wrap ((d : Int) + 1) = (d : Int) + 1 := wrap_i64 (by omega) (by omega)
      have hl := dec_len (n := m) (by omega)
      have hl' : (Lib.decDigits d).length ≤ 21 := dec_len (by omega)
      have hs := digit_run d (by omega)
      have HC := ih m
      have hmk : m ≤ k := by omega
      have hmn : m < 9223372036854775808 := by omega
      have he : Hid (Lib.decDigits m ++ Lib.decDigits d = Lib.decDigits n) := by
        have : Lib.decDigits m ++ Lib.decDigits d = Lib.decDigits n := by
          rw [Lib.decDigits_one (i := d) (by omega), hm, hd]; conv => rhs; rw [Lib.decDigits, dif_neg h]
        exact this
      have hsum : ¬ 9223372036854775807 < (Lib.decDigits m).length + (Lib.decDigits d).length := by omega
      clear hm hd
      go_enter Tryz.func47, Tryz.ntmps47
      go_wp2_with fail
      go_region_held3 (fun _ => True) (trivial) (first | (go_at_call 47; refine (HC _ hmk hmn).mono ?_; rintro e w1 ⟨rfl, hb⟩))
      go_wp2
      go_ret
      exact ⟨ret_str (by rw [cat_lists, he.out]), bchain (Below.refl _ _).drew hb⟩

set_option maxRecDepth 20000 in
theorem digits_any (n : Int) (w : World) (h0 : -9223372036854775808 ≤ n) (h1 : n ≤ 9223372036854775807) :
    Calls Tryz.prog 47 #[.int .i64 n] w fun e w' => e = .returned (.string ⟨(Lib.itoa n).toArray⟩) ∧ Below w.heap.size w w' := by
  by_cases hn : 0 ≤ n
  · obtain ⟨k, rfl⟩ := Int.eq_ofNat_of_zero_le hn
    rw [Lib.itoa_nonneg]
    exact digits_nat k k w (Nat.le_refl _) (by omega)
  · obtain ⟨a, rfl⟩ : ∃ a : Nat, n = -(a : Int) := ⟨n.natAbs, by omega⟩
    rw [Lib.itoa_neg a (by omega)]
    by_cases h : a < 10
    · have HC : ∀ w, Calls Tryz.prog 47 #[.int .i64 (a : Int)] w fun e w' => e = .returned (.string ⟨(Lib.decDigits a).toArray⟩) ∧ Below w.heap.size w w' := fun w => digits_nat a a w (Nat.le_refl _) (by omega)
      have hl := dec_len (n := a) (by omega)
      have t1 : -(a : Int) < 0 := by omega
      have t2 : -10 < -(a : Int) := by omega
      go_enter Tryz.func47, Tryz.ntmps47
      go_wp2_with (go_at_call 47; refine (HC _).mono ?_; rintro e w1 ⟨rfl, hb⟩)
      go_ret
      exact ⟨ret_str (cons_str 45 _), hb⟩
    · obtain ⟨m, hm⟩ : ∃ m, m = a / 10 := ⟨_, rfl⟩
      obtain ⟨d, hd⟩ : ∃ d, d = a % 10 := ⟨_, rfl⟩
      have HC : ∀ w, Calls Tryz.prog 47 #[.int .i64 ((a : Int) / 10)] w fun e w' => e = .returned (.string ⟨(Lib.decDigits m).toArray⟩) ∧ Below w.heap.size w w' := fun w => by
        rw [show (a : Int) / 10 = (m : Int) by omega]; exact digits_nat m m w (Nat.le_refl _) (by omega)
      have HD : ∀ w, Calls Tryz.prog 47 #[.int .i64 ((a : Int) % 10)] w fun e w' => e = .returned (.string ⟨(Lib.decDigits d).toArray⟩) ∧ Below w.heap.size w w' := fun w => by
        rw [show (a : Int) % 10 = (d : Int) by omega]; exact digits_nat d d w (Nat.le_refl _) (by omega)
      have hl := dec_len (n := m) (by omega)
      have hl' : (Lib.decDigits d).length ≤ 21 := dec_len (by omega)
      have t1 : -(a : Int) < 0 := by omega
      have t2 : ¬ -10 < -(a : Int) := by omega
      have he : Hid (Lib.decDigits m ++ Lib.decDigits d = Lib.decDigits a) := by
        have : Lib.decDigits m ++ Lib.decDigits d = Lib.decDigits a := by
          rw [Lib.decDigits_one (i := d) (by omega), hm, hd]; conv => rhs; rw [Lib.decDigits, dif_neg h]
        exact this
      clear hm hd
      go_enter Tryz.func47, Tryz.ntmps47
      go_wp2_with fail
      refine (HC _).mono ?_
      rintro e w1 ⟨rfl, hb⟩
      go_wp2_with fail
      refine (HD _).mono ?_
      rintro e w2 ⟨rfl, hb2⟩
      go_wp2
      go_ret
      exact ⟨ret_str (by rw [cons_str, cat_lists, List.cons_append, he.out]), bchain hb hb2⟩

theorem itoa_len {n : Int} (h0 : -9223372036854775808 ≤ n) (h1 : n ≤ 9223372036854775807) : (Lib.itoa n).length ≤ 21 := Lib.itoa_length_le n h0 h1
end Go.Proofs.YthlhopdlkkeohaaGreatDoor.N
/- The walk of quoted (of a text that is UTF-8). -/
namespace Go.Proofs.YthlhopdlkkeohaaGreatDoor.N
open Go.RowKit

/-- The byte in front of what is quoted; the character is that byte. -/
theorem isQN_byte {l : List UInt8} (hne : l ≠ []) (h : Nq.isQN (Lib.decodeL l).1 = true) : ∃ b t, l = b :: t ∧ Nq.isQ b = true ∧ (Lib.decodeL l).2 = 1 ∧ b.toNat = (Lib.decodeL l).1 := by
  cases l with
  | nil => exact absurd rfl hne
  | cons b t =>
    rcases Nm.chunk (b :: t) hne with ⟨h1, h2⟩ | ⟨_, h2, _⟩
    · rw [h2] at h
      simp only [List.getD_cons_zero] at h h1 h2
      refine ⟨b, t, rfl, ?_, by rw [h2], by rw [h2]⟩
      simp only [Nq.isQN, Bool.or_eq_true, beq_iff_eq] at h
      simp only [Nq.isQ, Bool.or_eq_true, beq_iff_eq]
      rcases h with h | h
      · left; exact UInt8.toNat_inj.1 h
      · right; exact UInt8.toNat_inj.1 h
    · simp only [Nq.isQN, Bool.or_eq_true, beq_iff_eq] at h
      omega
/-- No byte of another character is a quote or an escape. -/
theorem isQN_none {l : List UInt8} (hne : l ≠ []) (h : Nq.isQN (Lib.decodeL l).1 = false) : ∀ x ∈ l.take (Lib.decodeL l).2, Nq.isQ x = false := by
  rcases Nm.chunk l hne with ⟨h1, h2⟩ | ⟨_, _, h3⟩
  · intro x hx
    rw [h2] at h hx
    cases l with
    | nil => exact absurd rfl hne
    | cons b t =>
      simp only [List.getD_cons_zero] at h
      simp at hx
      subst hx
      simp only [Nq.isQN, Bool.or_eq_false_iff, beq_eq_false_iff_ne] at h
      simp only [Nq.isQ, Bool.or_eq_false_iff, beq_eq_false_iff_ne]
      refine ⟨fun e => h.1 (by rw [e]; rfl), fun e => h.2 (by rw [e]; rfl)⟩
  · intro x hx
    exact Nq.isQ_high (h3 x hx)
/-- Where a walk through the characters stands: what is written, what is still to read. -/
def quoAt (l : List UInt8) (pos : Nat) (acc : List UInt8) : Prop := pos ≤ l.length ∧ acc.length ≤ 2 * pos + 1 ∧ Vl.utf (l.drop pos) = true ∧ 34 :: Nq.quote l = acc ++ Nq.quote (l.drop pos)
theorem quoAt_zero {l : List UInt8} (h : Vl.utf l = true) : quoAt l 0 [34] := ⟨by omega, by simp, by simpa using h, by simp⟩
theorem quoAt_step {l : List UInt8} {pos : Nat} {acc : List UInt8} (h : quoAt l pos acc) (hne : l.drop pos ≠ []) (hq : Nq.isQN (Lib.decodeL (l.drop pos)).1 = false) : quoAt l (pos + (Lib.decodeL (l.drop pos)).2) (acc ++ Lib.encodeRune ((Lib.decodeL (l.drop pos)).1 : Int)) := by
  have h1 := Lib.decodeL_le _ hne
  have hw := Lib.decodeL_width (l.drop pos)
  rw [List.length_drop] at h1
  obtain ⟨a1, a2, a3, a4⟩ := h
  obtain ⟨hb, hr⟩ := Vl.runes_some hne a3
  rw [Lib.encode_decode _ hne (Nm.not_bad hb)]
  refine ⟨by omega, ?_, by rw [Nm.drop_rest] at hr; exact hr, ?_⟩
  · rw [List.length_append, List.length_take, List.length_drop]; omega
  · have e : Nq.quote (l.drop pos) = (l.drop pos).take (Lib.decodeL (l.drop pos)).2 ++ Nq.quote (l.drop (pos + (Lib.decodeL (l.drop pos)).2)) := by
      conv => lhs; rw [← List.take_append_drop (Lib.decodeL (l.drop pos)).2 (l.drop pos)]
      rw [Nq.quote_append, Nq.quote_high (isQN_none hne hq), List.drop_drop]
    rw [a4, e]
    simp
theorem quoAt_esc {l : List UInt8} {pos : Nat} {acc : List UInt8} (h : quoAt l pos acc) (hne : l.drop pos ≠ []) (hq : Nq.isQN (Lib.decodeL (l.drop pos)).1 = true) : quoAt l (pos + (Lib.decodeL (l.drop pos)).2) (acc ++ [92] ++ Lib.encodeRune ((Lib.decodeL (l.drop pos)).1 : Int)) := by
  have h1 := Lib.decodeL_le _ hne
  rw [List.length_drop] at h1
  obtain ⟨b, t, e1, e2, e3, e5⟩ := isQN_byte hne hq
  obtain ⟨a1, a2, a3, a4⟩ := h
  obtain ⟨hb, hr⟩ := Vl.runes_some hne a3
  rw [Lib.encode_decode _ hne (Nm.not_bad hb)]
  rw [Nm.drop_rest] at hr
  rw [e3] at h1 hr ⊢
  have e4 : l.drop (pos + 1) = t := by rw [← List.drop_drop, e1]; rfl
  refine ⟨by omega, ?_, hr, ?_⟩
  · simp only [List.length_append, List.length_take, List.length_singleton]
    omega
  · rw [e4, a4, e1, Nq.quote_cons, if_pos e2]
    simp
theorem quoAt_end {l : List UInt8} {pos : Nat} {acc : List UInt8} (h : quoAt l pos acc) (hn : l.drop pos = []) : Vl.quoted l = acc ++ [34] := by
  obtain ⟨a1, a2, a3, a4⟩ := h
  rw [hn, Nq.quote_nil, List.append_nil] at a4
  rw [← a4]; rfl

set_option maxRecDepth 100000 in
set_option maxHeartbeats 4000000 in
theorem quoted_any (s : ByteArray) (w : World) (hs : s.size ≤ 2000000) (hu : Vl.utf s.data.toList = true) :
    Calls Tryz.prog 129 #[.string s] w fun e w' => e = .returned (.string ⟨(Vl.quoted s.data.toList).toArray⟩) ∧ Below w.heap.size w w' := by
  have H0 := Lib.IsBuilderF.of (Lib.fresh_isBuilder 102 5 w)
  have HU : Hid (quoAt s.data.toList 0 [34]) := by have h := quoAt_zero hu; exact h
  clear hu
  go_enter Tryz.func129, Tryz.ntmps129
  go_wp2_with (first | (go_at_call 51; refine (U.writeByte_any w.heap.size w.heap.size _ 34 _ H0 (by simp) (by simp)).mono ?_) | go_in)
  rintro e W0 ⟨rfl, h0, b0, k0⟩
  have hsz0 := b0.size
  have hB0 : Below w.heap.size w W0 := ((Below.refl _ w).alloc (Nat.le_refl _) _).trans b0
  clear b0 k0 H0
  have hg : w.heap.size < W0.heap.size := by simp at hsz0; omega
  go_wp2
  go_loopw [] (fun wr => ∃ (pos : Nat) (acc : List UInt8), Lib.IsBuilderF 102 5 w.heap.size w.heap.size (Lib.byteCells acc) wr ∧ wr.heap[W0.heap.size]? = some (.stringIter s pos) ∧ Below w.heap.size w wr ∧ quoAt s.data.toList pos acc) (fun wr => s.size - wr.iterPos W0.heap.size)
  case atStart =>
    refine ⟨0, [34], ?_, ?_, hB0.alloc (by omega) _, HU.out⟩
    · have h1 : Lib.IsBuilderF 102 5 w.heap.size w.heap.size (Lib.byteCells [34]) W0 := h0
      exact h1.alloc _
    · have := World.iter_heap W0 s 0
      simpa using this
  case round =>
    obtain ⟨pos, acc, hI, hit, hbw, hR⟩ := hrel
    have hsz : W0.heap.size < wr.heap.size := U.heap_lt hit
    have hpl := hR.1
    rw [size_len] at hpl
    have hal := hR.2.1
    by_cases hp : pos < s.size
    · have hnx : ∀ ty, (Instr.next (.pointer (some ⟨W0.heap.size, 0, none⟩)) true ty).run Tryz.prog wr = _ := fun ty => Lib.run_next_any_at wr W0.heap.size s pos ty hit hp
      have HE : Hid (s.data.toList.drop pos ≠ []) := U.drop_ne hp
      have HD : Hid (Lib.decodeL (s.data.toList.drop pos) = Utf8.decode s pos) := Lib.decodeL_drop s pos
      have hd1 := decode_le s pos
      have hwd : 1 ≤ (Utf8.decode s pos).2 := by rw [← HD.out]; exact Lib.decodeL_width _
      have hI2 := hI.iterAt hit (pos + (Utf8.decode s pos).2)
      have hit2 := Lib.iterAt_heap wr W0.heap.size s pos (pos + (Utf8.decode s pos).2) hit
      have hbw2 := Lib.below_iterAt hbw (k := W0.heap.size) (by omega) s (pos + (Utf8.decode s pos).2)
      have hsz2 : w.heap.size ≤ (wr.iterAt W0.heap.size s (pos + (Utf8.decode s pos).2)).heap.size := by rw [Lib.iterAt_size]; omega
      cases hq : Nq.isQN (Utf8.decode s pos).1 with
      | false =>
        have HR : Hid (quoAt s.data.toList (pos + (Utf8.decode s pos).2) (acc ++ Lib.encodeRune ((Utf8.decode s pos).1 : Int))) := by
          have h := quoAt_step hR HE.out (by rw [HD.out]; exact hq)
          rw [HD.out] at h
          exact h
        clear hR
        have q1 : (((Utf8.decode s pos).1 : Int) == 34) = false := by
          simp only [Nq.isQN, Bool.or_eq_false_iff, beq_eq_false_iff_ne] at hq
          exact beq_eq_false_iff_ne.2 (by omega)
        have q2 : (((Utf8.decode s pos).1 : Int) == 92) = false := by
          simp only [Nq.isQN, Bool.or_eq_false_iff, beq_eq_false_iff_ne] at hq
          exact beq_eq_false_iff_ne.2 (by omega)
        clear hq
        go_wp2_with (first
          | (go_at_call 165; refine (U.writeRune_any w.heap.size w.heap.size _ _ (by omega) (by omega) _ hI2 (by rw [Lib.byteCells_length]; omega) hsz2).mono ?_)
          | go_in)
        rintro e W1 ⟨rfl, h1, b1, k1⟩
        go_wp2
        go_roundw
        case rel =>
          refine ⟨pos + (Utf8.decode s pos).2, acc ++ Lib.encodeRune (Utf8.decode s pos).1, ?_, k1.iter hit2 (by omega), hbw2.trans b1, HR.out⟩
          rw [Lib.byteCells_append, Lib.byteCells_encodeRune]
          exact h1
        case measure =>
          simp only [World.iterPos, k1.iter hit2 (by omega), hit]
          omega
      | true =>
        have HR : Hid (quoAt s.data.toList (pos + (Utf8.decode s pos).2) (acc ++ [92] ++ Lib.encodeRune ((Utf8.decode s pos).1 : Int))) := by
          have h := quoAt_esc hR HE.out (by rw [HD.out]; exact hq)
          rw [HD.out] at h
          exact h
        clear hR
        have q : (Utf8.decode s pos).1 = 34 ∨ (Utf8.decode s pos).1 = 92 := by
          simp only [Nq.isQN, Bool.or_eq_true, beq_iff_eq] at hq
          exact hq
        clear hq
        generalize (Utf8.decode s pos).2 = d at *
        rcases q with q | q
        all_goals
          rw [q] at HR hnx hd1
          clear q HD
          go_wp2_with (first
            | (go_at_call 51; refine (U.writeByte_any w.heap.size w.heap.size _ 92 _ hI2 (by rw [Lib.byteCells_length]; omega) hsz2).mono ?_)
            | go_in)
          rintro e W1 ⟨rfl, h1, b1, k1⟩
          have hit3 := k1.iter hit2 (by omega)
          have hsz3 : w.heap.size ≤ W1.heap.size := Nat.le_trans hsz2 b1.size
          go_wp2_with (first
            | (go_at_call 165; refine (U.writeRune_any w.heap.size w.heap.size _ _ (by omega) (by omega) _ h1 (by simp only [List.length_append, Lib.byteCells_length, List.length_singleton]; omega) hsz3).mono ?_)
            | go_in)
          rintro e W2 ⟨rfl, h2, b2, k2⟩
          have hit4 := k2.iter hit3 (by omega)
          go_wp2
          go_roundw
          case rel =>
            refine ⟨pos + d, _, ?_, hit4, (hbw2.trans b1).trans b2, HR.out⟩
            rw [Lib.byteCells_append, Lib.byteCells_encodeRune, Lib.byteCells_append]
            exact h2
          case measure =>
            simp only [World.iterPos, hit4, hit]
            omega
    · have hnx : ∀ ty, (Instr.next (.pointer (some ⟨W0.heap.size, 0, none⟩)) true ty).run Tryz.prog wr = _ := fun ty => Lib.run_next_end_at wr W0.heap.size s pos ty hit hp
      have HL : Hid (Vl.quoted s.data.toList = acc ++ [34]) := by
        have h := quoAt_end hR (U.drop_nil hp)
        exact h
      clear hR
      go_wp2_with (first
        | (go_at_call 51; refine (U.writeByte_any w.heap.size w.heap.size _ 34 _ hI (by rw [Lib.byteCells_length]; omega) (by omega)).mono ?_)
        | go_in)
      rintro e W1 ⟨rfl, h1, b1, k1⟩
      have h1' : Lib.IsBuilderF 102 5 w.heap.size w.heap.size (Lib.byteCells (acc ++ [34])) W1 := by rw [Lib.byteCells_append]; exact h1
      have hsz3 : w.heap.size ≤ W1.heap.size := Nat.le_trans (by omega) b1.size
      go_wp2_with (first | (go_at_call 52; refine (bString w.heap.size w.heap.size _ _ h1' hsz3).mono ?_) | go_in)
      rintro e W2 ⟨rfl, _, b2, _⟩
      go_wp2
      go_ret
      exact ⟨ret_str (by rw [HL.out]), (hbw.trans b1).trans b2⟩

end Go.Proofs.YthlhopdlkkeohaaGreatDoor.N
/- The walk of value.Text, of a right value. -/
namespace Go.Proofs.YthlhopdlkkeohaaGreatDoor.N
open Go.RowKit

set_option maxRecDepth 20000 in
theorem inside_any (k n : Int) (l : List UInt8) (w : World) : Calls Tryz.prog 128 #[valV k n l] w fun e w' => e = .returned (inV (Vl.inside k n l)) ∧ Below w.heap.size w w' := by
  by_cases h1 : k = 1
  · subst h1
    go_enter Tryz.func128, Tryz.ntmps128
    go_wp2
    go_ret
    exact ⟨rfl, below_new _ _⟩
  · have e1 : (k == 1) = false := beq_eq_false_iff_ne.2 h1
    by_cases h2 : k = 2
    · subst h2
      go_enter Tryz.func128, Tryz.ntmps128
      go_wp2
      go_ret
      exact ⟨rfl, below_new _ _⟩
    · have e2 : (k == 2) = false := beq_eq_false_iff_ne.2 h2
      rw [show Vl.inside k n l = .bool (n == 1) by unfold Vl.inside; rw [if_neg h1, if_neg h2]]
      clear h1 h2
      go_enter Tryz.func128, Tryz.ntmps128
      go_wp2
      go_ret
      exact ⟨rfl, below_new _ _⟩

theorem quoted_list (l : List UInt8) (w : World) (hs : l.length ≤ 2000000) (hu : Vl.utf l = true) : Calls Tryz.prog 129 #[.string ⟨l.toArray⟩] w fun e w' => e = .returned (.string ⟨(Vl.quoted l).toArray⟩) ∧ Below w.heap.size w w' :=
  quoted_any ⟨l.toArray⟩ w (by rw [mk_size]; exact hs) hu
theorem formatBool_list (b : Bool) (w : World) : Calls Tryz.prog 130 #[.bool b] w fun e w' => e = .returned (.string ⟨(if b then Vl.tru else Vl.fls).toArray⟩) ∧ Below w.heap.size w w' := by
  refine (formatBool_any b w).mono ?_
  rintro e w' ⟨rfl, rfl⟩
  rw [Vl.formatBool_eq]
  exact ⟨rfl, Below.refl _ _⟩

set_option maxRecDepth 20000 in
theorem text_right (k n : Int) (l : List UInt8) (w : World) (hk : Keeps w) (h : Vl.Right k n l) : Calls Tryz.prog 89 #[valV k n l] w fun e w' => e = .returned (.string ⟨(Vl.text k n l).toArray⟩) ∧ Below w.heap.size w w' := by
  have hlen := h.len
  have hu := h.utf
  have ham := h.amount
  rcases h with ⟨rfl, rfl, h1, h2⟩ | ⟨rfl, rfl, h1, h2⟩ | ⟨rfl, rfl, h1, h2⟩
  · have C25 : ∀ w, Calls Tryz.prog 128 #[valV 1 n []] w fun e w' => e = .returned (.iface 3 (.int .i64 n)) ∧ Below w.heap.size w w' := fun w => inside_any 1 n [] w
    have C32 := fun w (hk : Keeps w) => itoa_any n w hk (by omega) (by omega)
    have A := as3_3
    rw [show Vl.text 1 n [] = Lib.itoa n from rfl]
    generalize Lib.itoa n = t at *
    go_enter Tryz.func89, Tryz.ntmps89
    go_wp2_with (first
      | (go_at_call 128; refine (C25 _).mono ?_; rintro e w1 ⟨rfl, hb1⟩; have B1 := bchain (below_new w (valO 1 n [])) hb1)
      | (go_at_call 44; refine (C32 _ (hk.on B1)).mono ?_; rintro e w2 ⟨rfl, hb2⟩))
    go_ret
    exact ⟨rfl, bchain B1 hb2⟩
  · have C25 : ∀ w, Calls Tryz.prog 128 #[valV 2 0 l] w fun e w' => e = .returned (.iface 9 (.string ⟨l.toArray⟩)) ∧ Below w.heap.size w w' := fun w => inside_any 2 0 l w
    have C33 := fun w => quoted_list l w (by omega) hu
    have A := as9_3
    have B := as9_9
    rw [Vl.text_str]
    generalize Vl.quoted l = t at *
    go_enter Tryz.func89, Tryz.ntmps89
    go_wp2_with (first
      | (go_at_call 128; refine (C25 _).mono ?_; rintro e w1 ⟨rfl, hb1⟩; have B1 := bchain (below_new w (valO 2 0 l)) hb1)
      | (go_at_call 129; refine (C33 _).mono ?_; rintro e w2 ⟨rfl, hb2⟩))
    go_ret
    exact ⟨rfl, bchain B1 hb2⟩
  · have C25 : ∀ w, Calls Tryz.prog 128 #[valV 3 n []] w fun e w' => e = .returned (.iface 4 (.bool (n == 1))) ∧ Below w.heap.size w w' := fun w => inside_any 3 n [] w
    have C34 := formatBool_list (n == 1)
    have A := as4_3
    have B := as4_9
    have C := as4_4
    rw [show (if (n == 1) = true then Vl.tru else Vl.fls) = Vl.text 3 n [] by rw [show Vl.text 3 n [] = (if n = 1 then Vl.tru else Vl.fls) from rfl]; by_cases e : n = 1 <;> simp [e]] at C34
    generalize Vl.text 3 n [] = t at *
    generalize (n == 1) = q at *
    go_enter Tryz.func89, Tryz.ntmps89
    go_wp2_with (first
      | (go_at_call 128; refine (C25 _).mono ?_; rintro e w1 ⟨rfl, hb1⟩; have B1 := bchain (below_new w (valO 3 n [])) hb1)
      | (go_at_call 130; refine (C34 _).mono ?_; rintro e w2 ⟨rfl, hb2⟩))
    go_ret
    exact ⟨rfl, bchain B1 hb2⟩


end Go.Proofs.YthlhopdlkkeohaaGreatDoor.N
