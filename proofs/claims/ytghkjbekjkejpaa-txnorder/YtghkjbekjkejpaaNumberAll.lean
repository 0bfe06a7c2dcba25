/- The walks of 'lastByte' and 'number' · The walks of the reader's methods, over a reader that lies in memory of its own · The walks of the two 'Int's and the two 'Text's: a number's bytes, a text behind its length · What was told is read again: the walks of Many and Text over a reader whose text begins so · Small laws on worlds that all texts of this seat share. -/
import Derived.Test.YtghkjbekjkejpaaChecked
import Derived.Test.YtghkjbekjkejpaaUtfAll
import Derived.WalkKit
import Derived.Deep.QuietTactic
import Derived.BigQuiet
import Derived.WalkSmall
import Derived.Laws.IdiomStrings
import Derived.Laws.BytesArg
import Derived.Deep.RegionWith
import Derived.WalkLawsBesides
import Derived.Deep.RegionHeld3
/- The walks of 'lastByte' and 'number'. -/
namespace Go.Proofs.Ytghkjbekjkejpaa
open Go.RowKit

theorem ret_int {k : IntKind} {a b : Int} (h : a = b) : Ending.returned (.int k a) = .returned (.int k b) := by rw [h]
theorem size_len (s : ByteArray) : s.data.toList.length = s.size := by simp
theorem get_data (s : ByteArray) (k : Nat) (h : k < s.size) : s.data.toList[k]'(by simpa using h) = s[k] := rfl

theorem ret3 {a a' c c' : Int} {b b' : ByteArray} (h1 : a = a') (h2 : b = b') (h3 : c = c') : Ending.returned (.tuple #[.int .i64 a, .string b, .int .i64 c]) = .returned (.tuple #[.int .i64 a', .string b', .int .i64 c']) := by rw [h1, h2, h3]
/-- What 'number' tells, as the program's values. -/
def numV (l : List UInt8) : Value := .tuple #[.int .i64 ((Pk.num l).1 : Nat), .string ⟨(Pk.num l).2.1.toArray⟩, .int .i64 ((Pk.num l).2.2 : Nat)]

theorem val_step (l : List UInt8) (m j : Nat) (h : j < m) (hl : j < l.length) : Pk.val ((l.take m).drop j) = l[j].toNat % 128 + 128 * Pk.val ((l.take m).drop (j + 1)) := by
  have h1 : j < (l.take m).length := by simp; omega
  rw [List.drop_eq_getElem_cons h1, Pk.val_cons, List.getElem_take]
theorem val_drop_lt (l : List UInt8) (m j : Nat) (h : m ≤ 8) (hj : 1 ≤ j) : Pk.val ((l.take m).drop j) < 562949953421312 := by
  have h1 := Pk.val_lt ((l.take m).drop j)
  have h2 : ((l.take m).drop j).length ≤ 7 := by simp; omega
  have h3 : 128 ^ ((l.take m).drop j).length ≤ 128 ^ 7 := Nat.pow_le_pow_right (by omega) h2
  have h4 : 128 ^ 7 = 562949953421312 := by decide
  omega
theorem extract_high (s : ByteArray) (k : Nat) : s.extract k s.size = ⟨(s.data.toList.drop k).toArray⟩ := by
  apply ByteArray.ext
  apply Array.toList_inj.1
  simp only [ByteArray.data_extract, Array.toList_extract, List.extract_eq_take_drop]
  exact List.take_of_length_le (by simp)

end Go.Proofs.Ytghkjbekjkejpaa
/- The walks of the reader's methods, over a reader that lies in memory of its own. -/
namespace Go.Proofs.Ytghkjbekjkejpaa
open Go.RowKit

/-- All that was there is as it was, but for one block. -/
structure But (b : Nat) (w w' : World) : Prop where
  os : w'.os = w.os
  tape : w'.tape = w.tape
  output : w'.output = w.output
  size : w.heap.size ≤ w'.heap.size
  block : ∀ k, k < w.heap.size → k ≠ b → w'.heap[k]? = w.heap[k]?
theorem But.refl (b : Nat) (w : World) : But b w w := ⟨rfl, rfl, rfl, Nat.le_refl _, fun _ _ _ => rfl⟩
theorem But.trans {b : Nat} {a c d : World} (h : But b a c) (k : But b c d) : But b a d :=
  ⟨k.os.trans h.os, k.tape.trans h.tape, k.output.trans h.output, Nat.le_trans h.size k.size, fun i hi hb => (k.block i (Nat.lt_of_lt_of_le hi h.size) hb).trans (h.block i hi hb)⟩
theorem But.of {b : Nat} {w w' : World} (h : Below w.heap.size w w') : But b w w' := ⟨h.os, h.tape, h.output, h.size, fun k hk _ => h.block k hk⟩
theorem But.below {b B : Nat} {w w' : World} (h : But b w w') (hB : B ≤ b) (hb : B ≤ w.heap.size) : Below B w w' :=
  ⟨h.os, h.tape, h.output, h.size, fun k hk => h.block k (Nat.lt_of_lt_of_le hk hb) (Nat.ne_of_lt (Nat.lt_of_lt_of_le hk hB))⟩
theorem But.cell {b : Nat} {w w' : World} {a : Addr} {v : Value} (h : But b w w') (ha : w.cell? a = some v) (hne : a.block ≠ b) : w'.cell? a = some v :=
  (World.cell?_of_block (w := w) (h.block a.block (World.block_lt_of_cell? w a ha) hne)).trans ha
theorem But.frozen {b : Nat} {w w' : World} {a : Addr} {v : Value} {f : Bool} (h : But b w w') (ha : w.cell? a = some v) (hf : w.frozen? a = f) (hne : a.block ≠ b) : w'.frozen? a = f :=
  (World.frozen?_of_block (w := w) (h.block a.block (World.block_lt_of_cell? w a ha) hne)).trans hf
theorem But.set (w : World) (b o : Nat) (v : Value) : But b w (w.setCell ⟨b, o, none⟩ v) := by
  have h := (Below.refl 0 w).setCell (p := ⟨b, o, none⟩) (Nat.zero_le _) v
  exact ⟨h.os, h.tape, h.output, h.size, fun k _ hk => Below.heap_setCell w ⟨b, o, none⟩ v k hk⟩

/-- A reader at a block: what is left, and what is wrong. -/
structure Rd (w : World) (b : Nat) (l : List UInt8) (f : Nat) : Prop where
  left : w.cell? ⟨b, 0, none⟩ = some (.string ⟨l.toArray⟩)
  bad : w.cell? ⟨b, 1, none⟩ = some (.int .i64 (f : Int))
  free0 : w.frozen? ⟨b, 0, none⟩ = false
  free1 : w.frozen? ⟨b, 1, none⟩ = false
theorem Rd.lt {w : World} {b : Nat} {l : List UInt8} {f : Nat} (h : Rd w b l f) : b < w.heap.size := World.block_lt_of_cell? w ⟨b, 0, none⟩ h.left
theorem Rd.below {w w' : World} {b : Nat} {l : List UInt8} {f B : Nat} (h : Rd w b l f) (hb : Below B w w') (hB : b < B) : Rd w' b l f :=
  ⟨(hb.cell (p := ⟨b, 0, none⟩) hB).trans h.left, (hb.cell (p := ⟨b, 1, none⟩) hB).trans h.bad, (hb.frozen (p := ⟨b, 0, none⟩) hB).trans h.free0, (hb.frozen (p := ⟨b, 1, none⟩) hB).trans h.free1⟩

theorem Rd.setBad {w : World} {b : Nat} {l : List UInt8} {f : Nat} (h : Rd w b l f) (x : Nat) : Rd (w.setCell ⟨b, 1, none⟩ (.int .i64 (x : Int))) b l x ∧ But b w (w.setCell ⟨b, 1, none⟩ (.int .i64 (x : Int))) := by
  obtain ⟨h0, h1, h2, h3⟩ := h
  exact ⟨⟨(World.cell?_setCell_other _ _ _ _ (by simp)).trans h0, World.cell?_setCell_same _ _ _ h1, by simp [h2], by simp [h3]⟩, But.set w b _ _⟩
theorem Rd.setLeft {w : World} {b : Nat} {l : List UInt8} {f : Nat} (h : Rd w b l f) (m : List UInt8) : Rd (w.setCell ⟨b, 0, none⟩ (.string ⟨m.toArray⟩)) b m f ∧ But b w (w.setCell ⟨b, 0, none⟩ (.string ⟨m.toArray⟩)) := by
  obtain ⟨h0, h1, h2, h3⟩ := h
  exact ⟨⟨World.cell?_setCell_same _ _ _ h0, (World.cell?_setCell_other _ _ _ _ (by simp)).trans h1, by simp [h2], by simp [h3]⟩, But.set w b _ _⟩

/-- Behind a number: what is told, what is left, what is wrong. -/
def took (l : List UInt8) (n : Nat) (m : List UInt8) (x : Nat) : Nat × List UInt8 × Nat := if x = 0 then (n, m, 0) else (0, l, x)
theorem mk_size (l : List UInt8) : (⟨l.toArray⟩ : ByteArray).size = l.length := by simp [ByteArray.size]
theorem mk_data (l : List UInt8) : (⟨l.toArray⟩ : ByteArray).data.toList = l := by simp

/-- What 'Int' does to a reader. -/
def rdInt (l : List UInt8) (f : Nat) : Nat × List UInt8 × Nat := if f = 0 then took l (Pk.num l).1 (Pk.num l).2.1 (Pk.num l).2.2 else (0, l, f)
theorem num_len (l : List UInt8) : (Pk.num l).2.1.length ≤ l.length := by
  unfold Pk.num
  split
  · simp
  · split
    · simp
    · split
      · simp
      · simp
theorem rdInt_len (l : List UInt8) (f : Nat) : (rdInt l f).2.1.length ≤ l.length := by
  unfold rdInt took; split
  · split
    · exact num_len l
    · simp
  · simp
/-- What 'End' tells. -/
def rdEnd (l : List UInt8) (f : Nat) : Nat := if f = 0 then (if l.length = 0 then 0 else 3) else f
end Go.Proofs.Ytghkjbekjkejpaa
/- The walks of the two 'Int's and the two 'Text's: a number's bytes, a text behind its length. -/
namespace Go.Proofs.Ytghkjbekjkejpaa
open Go.RowKit

/-- Bytes as cells. -/
def cellsOf (l : List UInt8) : List Value := l.map fun b => .int .u8 (b.toNat : Int)
theorem cellsOf_snoc (l : List UInt8) (b : UInt8) : cellsOf (l ++ [b]) = cellsOf l ++ [.int .u8 (b.toNat : Int)] := by simp [cellsOf]
theorem Try.info5 : (Try.prog.info? 5).map (fun i => (i.zero, i.size, i.bytes)) = some (some (.int .u8 0), 1, 1) := by kernel_rfl

/-- The text of a row of the call's own. -/
theorem conv_own {w : World} {base : Nat} {v : Value} {n : Nat} {l : List UInt8} (h : w.ownsRow base 5 1 v n (cellsOf l)) (hn : n = l.length) :
    (convert 57 9 v).run Try.prog w = .ok (.string ⟨l.toArray⟩) w := by
  subst hn
  rcases h.2 with ⟨rfl, h0⟩ | ⟨g, cap, cur, rfl, _⟩
  · obtain rfl : l = [] := List.length_eq_zero_iff.1 h0
    exact run_convert_bytes_nil w 57 5 Try.underlying57 Try.underlying5 0 0 9 Try.underlying9
  · refine run_convert_bytes_back w 57 9 5 ⟨g, 0, none⟩ cap l Try.underlying57 Try.underlying5 Try.underlying9 ?_
    intro j hj
    exact h.cells rfl j _ (by simp [cellsOf, List.getElem?_eq_getElem hj])

/-- The text of a literal's row. -/
theorem conv_new (w : World) (cs : Array Value) (l : List UInt8) (cap m : Nat) (hm : m = l.length) (hcs : cs = (cellsOf l).toArray) :
    (convert 57 9 (.slice (some ⟨w.heap.size, 0, none⟩) m cap)).run Try.prog (w.alloc (.cells cs 5)) = .ok (.string ⟨l.toArray⟩) (w.alloc (.cells cs 5)) := by
  subst hm hcs
  refine run_convert_bytes_back _ 57 9 5 ⟨w.heap.size, 0, none⟩ cap l Try.underlying57 Try.underlying5 Try.underlying9 ?_
  intro j hj
  have hadd : (⟨w.heap.size, 0, none⟩ : Addr).add j = ⟨w.heap.size, j, none⟩ := by unfold Addr.add; split <;> simp_all
  rw [hadd, World.cell?_alloc_at _ _ _ _ rfl]
  simp [cellsOf, List.getElem?_eq_getElem hj]

/-- A byte more. -/
theorem rel_snoc {w wr w1 : World} {B : Nat} {v v' : Value} {l : List UInt8} {o : Obj} {x : Int} (b : UInt8) (hB : B ≤ wr.heap.size) (hown : wr.ownsRow B 5 1 v l.length (cellsOf l)) (hnx : Below B w wr)
    (hown' : w1.ownsRow B 5 1 v' (l.length + 1) (cellsOf l ++ [.int .u8 x])) (hgrow : (wr.alloc o).grownBy w1 v.ownBlock) (hx : x = (b.toNat : Int)) :
    w1.ownsRow B 5 1 v' (l ++ [b]).length (cellsOf (l ++ [b])) ∧ Below B w w1 := by
  subst hx
  refine ⟨by rw [cellsOf_snoc, List.length_append]; exact hown', ?_⟩
  exact (hnx.alloc hB o).grown hgrow (by simp; omega) (fun k hk => (hown.lt k hk).1)

theorem one_new (wr : World) (x : Value) : ∀ j u, [x][j]? = some u → (wr.alloc (.cells #[x] 5)).cell? ((⟨wr.heap.size, 0, none⟩ : Addr).add j) = some u := by
  intro j u hj
  match j, hj with
  | 0, hj => simp at hj; subst hj; simp [Addr.add]
theorem one_cell (n : Int) : ∀ u ∈ [Value.int .u8 n], u.oneCell' = true := by intro u hu; simp at hu; subst hu; rfl
theorem len_one {l : List UInt8} {k : Nat} (h : Hid (l.length ≤ k)) (hk : k ≤ 1000000) : l.length + 1 ≤ maxLen := by have := h.out; unfold maxLen; omega
theorem len_bytes {l : List UInt8} {k : Nat} (h : Hid (l.length ≤ k)) (hk : k ≤ 1000000) : (l.length + 1) * 1 ≤ 140737488355328 := by have := h.out; omega

set_option maxRecDepth 20000 in
set_option maxHeartbeats 800000 in
theorem int_nat (n : Nat) (w : World) (hn : n < 9223372036854775808) :
    Calls Try.prog 40 #[.int .i64 n] w fun e w' => e = .returned (.string ⟨(Pk.enc n).toArray⟩) ∧ Below w.heap.size w w' := by
  obtain ⟨i0, hi, hz0, hz1, hz2⟩ := info_parts Try.info5
  have h9 := Pk.enc_len9 hn
  go_enter Try.func40, Try.ntmps40
  go_wp2
  go_loopw [0, 3] (fun m v wr => ∃ (k : Nat) (l : List UInt8), k ≤ n ∧ m = .int .i64 (k : Int) ∧ Hid (Pk.enc n = l ++ Pk.enc k) ∧ wr.ownsRow w.heap.size 5 1 v l.length (cellsOf l) ∧ Below w.heap.size w wr)
    (fun m _ _ => (intOf m).toNat)
  case atStart => exact ⟨n, [], by omega, by simp, rfl, World.ownsRow_nil _ _ _ _, Below.refl _ _⟩
  case round =>
    obtain ⟨k, l, hk, rfl, hE, hown, hnx⟩ := hrel
    have hsz := hnx.size
    have HL : Hid (l.length ≤ 9) := by
      have h : l.length ≤ 9 := by have := congrArg List.length hE.out; rw [List.length_append] at this; omega
      exact h
    clear h9
    by_cases hlt : k < 128
    · have HE : Hid (Pk.enc n = l ++ [UInt8.ofNat k]) := by
        have h : Pk.enc n = l ++ [UInt8.ofNat k] := by rw [hE.out, Pk.enc_small hlt]
        exact h
      clear hE
      go_wp2_with (first
        | (at_builtin; refine wpList_append_own _ rfl _ _ 57 rfl w.heap.size 5 i0 (.int .u8 0) 1 1 Try.underlying57 hi hz0 hz1 hz2 rfl (by decide) _ _ _ rfl (hown.alloc _) ⟨wr.heap.size, 0, none⟩ 1 1 [.int .u8 ((k : Int))] rfl rfl (one_new wr _) (one_cell _) (len_one HL (by omega)) (len_bytes HL (by omega)) (Nat.le_trans hsz (by simp)) ?_)
        | go_in)
      intro v' w1 hown' hgrow _
      have R := rel_snoc (UInt8.ofNat k) hsz hown hnx hown' hgrow (by simp; omega)
      clear hown' hgrow hown
      have hc := conv_own R.1 rfl
      go_wp2
      go_ret
      exact ⟨by rw [HE.out]; rfl, R.2⟩
    · have HE : Hid (Pk.enc n = (l ++ [UInt8.ofNat (k % 128 + 128)]) ++ Pk.enc (k / 128)) := by
        have h : Pk.enc n = (l ++ [UInt8.ofNat (k % 128 + 128)]) ++ Pk.enc (k / 128) := by rw [hE.out, Pk.enc_big hlt]; simp
        exact h
      clear hE
      go_wp2_with (first
        | (at_builtin; refine wpList_append_own _ rfl _ _ 57 rfl w.heap.size 5 i0 (.int .u8 0) 1 1 Try.underlying57 hi hz0 hz1 hz2 rfl (by decide) _ _ _ rfl (hown.alloc _) ⟨wr.heap.size, 0, none⟩ 1 1 [.int .u8 ((k : Int) % 128 + 128)] rfl rfl (one_new wr _) (one_cell _) (len_one HL (by omega)) (len_bytes HL (by omega)) (Nat.le_trans hsz (by simp)) ?_)
        | go_in)
      intro v' w1 hown' hgrow _
      have R := rel_snoc (UInt8.ofNat (k % 128 + 128)) hsz hown hnx hown' hgrow (by simp; omega)
      clear hown' hgrow hown
      go_wp2
      go_roundw
      case rel => exact ⟨k / 128, l ++ [UInt8.ofNat (k % 128 + 128)], by omega, by go_num, HE, R.1, R.2⟩
      case measure => simp [intOf]; omega

theorem wrap_i64 {e : Int} (h : -9223372036854775808 ≤ e) (h' : e < 9223372036854775808) : IntKind.i64.wrap e = e := by
  simp [IntKind.wrap, IntKind.signed, IntKind.bits]; try split
  all_goals omega
theorem wrap_u8 {e : Int} (h : 0 ≤ e) (h' : e < 256) : IntKind.u8.wrap e = e := by
  simp [IntKind.wrap, IntKind.signed, IntKind.bits]; omega
/-- The text of one byte, wherever its row lies. -/
theorem conv_one (x : Nat) (hx : x < 256) (w1 : World) (b : Nat) (hc : w1.cell? ⟨b, 0, none⟩ = some (.int .u8 (x : Int))) :
    (convert 57 9 (.slice (some ⟨b, 0, none⟩) 1 1)).run Try.prog w1 = .ok (.string ⟨#[UInt8.ofNat x]⟩) w1 := by
  refine run_convert_bytes_back _ 57 9 5 ⟨b, 0, none⟩ 1 [UInt8.ofNat x] Try.underlying57 Try.underlying5 Try.underlying9 ?_
  intro j hj
  match j, hj with
  | 0, _ => simpa [Addr.add, Nat.mod_eq_of_lt hx] using hc

theorem cell_after {w w1 : World} {v : Value} (hb : Below (w.alloc (.cells #[v] 5)).drew.heap.size (w.alloc (.cells #[v] 5)).drew w1) : w1.cell? ⟨w.heap.size, 0, none⟩ = some v :=
  (hb.cell (p := ⟨w.heap.size, 0, none⟩) (by show w.heap.size < (w.alloc _).heap.size; simp)).trans (by simp)
theorem below_after {w w1 : World} {o : Obj} (hb : Below (w.alloc o).drew.heap.size (w.alloc o).drew w1) : Below w.heap.size w w1 :=
  (((Below.refl _ w).alloc (Nat.le_refl _) o).drew).trans (hb.mono (by show w.heap.size ≤ (w.alloc _).heap.size; simp))
theorem below_ahead {w w1 : World} (hb : Below w.drew.heap.size w.drew w1) (o : Obj) : Below w.heap.size w (w1.alloc o) :=
  ((Below.refl _ w).drew.trans hb).alloc hb.size o
theorem ret_str {a b : ByteArray} (h : a = b) : Ending.returned (.string a) = .returned (.string b) := by rw [h]
theorem cons_str (x : UInt8) (l : List UInt8) : (⟨#[x]⟩ : ByteArray) ++ ⟨l.toArray⟩ = ⟨(x :: l).toArray⟩ := by
  apply ByteArray.ext; simp

set_option maxRecDepth 20000 in
set_option maxHeartbeats 2000000 in
theorem refInt_nat (k : Nat) : ∀ (n : Nat) (w : World), n ≤ k → n < 9223372036854775808 →
    Calls Try.prog 44 #[.int .i64 n] w fun e w' => e = .returned (.string ⟨(Pk.enc n).toArray⟩) ∧ Below w.heap.size w w' := by
  induction k with
  | zero =>
    intro n w hk hn
    obtain rfl : n = 0 := by omega
    have hE : Pk.enc 0 = [0] := by rw [Pk.enc_small (by omega)]; rfl
    rw [hE]
    go_enter Try.func44, Try.ntmps44
    go_wp2_with fail
    rw [conv_new w _ [0] 1 1 rfl (by simp [cellsOf])]
    go_wp2_with fail
    go_ret
    exact ⟨rfl, (Below.refl _ _).alloc (Nat.le_refl _) _⟩
  | succ k ih =>
    intro n w hk hn
    by_cases hlt : n < 128
    · rw [Pk.enc_small hlt]
      go_enter Try.func44, Try.ntmps44
      go_wp2_with fail
      rw [conv_new w _ [UInt8.ofNat n] 1 1 rfl (by simp [cellsOf]; omega)]
      go_wp2_with fail
      go_ret
      exact ⟨rfl, (Below.refl _ _).alloc (Nat.le_refl _) _⟩
    · obtain ⟨x, d, hx, hd, hd2, HE, hm, hq⟩ : ∃ x d : Nat, x < 256 ∧ d ≤ k ∧ d < 9223372036854775808 ∧ Hid (Pk.enc n = UInt8.ofNat x :: Pk.enc d) ∧ IntKind.u8.wrap (IntKind.i64.wrap ((n : Int).tmod 128 + 128)) = (x : Int) ∧ IntKind.i64.wrap ((n : Int) / 128) = (d : Int) := by
        refine ⟨n % 128 + 128, n / 128, by omega, by omega, by omega, Pk.enc_big hlt, ?_, ?_⟩
        · rw [Int.tmod_eq_emod_of_nonneg (by omega), wrap_i64 (by omega) (by omega), wrap_u8 (by omega) (by omega)]; simp
        · rw [wrap_i64 (by omega) (by omega)]; simp
      have hcv : ∀ (w1 : World) (b : Nat), w1.cell? ⟨b, 0, none⟩ = some (.int .u8 (x : Int)) → (convert 57 9 (.slice (some ⟨b, 0, none⟩) 1 1)).run Try.prog w1 = .ok (.string ⟨#[UInt8.ofNat x]⟩) w1 := fun w1 b hc => conv_one x hx w1 b hc
      have h9 := Pk.enc_len9 hd2
      go_enter Try.func44, Try.ntmps44
      go_wp2_with fail
      go_region_with (first
        | (go_at_call 44; refine (ih d _ hd hd2).mono ?_; rintro e w1 ⟨rfl, hb⟩; first | (have hc1 := cell_after hb) | skip))
      all_goals go_wp2_with fail
      all_goals go_ret
      all_goals refine ⟨?_, ?_⟩
      all_goals first | exact below_after hb | exact below_ahead hb _ | (rw [HE.out]; exact ret_str (cons_str _ _))

set_option maxRecDepth 20000 in
set_option maxHeartbeats 800000 in
/-- Of a number below 0 the bytes are those of 0. -/
theorem int_neg (n : Int) (w : World) (hn : n < 0) :
    Calls Try.prog 40 #[.int .i64 n] w fun e w' => e = .returned (.string ⟨(Pk.enc 0).toArray⟩) ∧ Below w.heap.size w w' := by
  obtain ⟨i0, hi, hz0, hz1, hz2⟩ := info_parts Try.info5
  have hE : Pk.enc 0 = [0] := by rw [Pk.enc_small (by omega)]; rfl
  rw [hE]
  go_enter Try.func40, Try.ntmps40
  go_wp2
  go_loopw [0, 3] (fun m v wr => m = .int .i64 0 ∧ v = .slice none 0 0 ∧ wr = w) (fun m _ _ => 0)
  case atStart => exact ⟨rfl, rfl, rfl⟩
  case round =>
    obtain ⟨rfl, rfl, rfl⟩ := hrel
    have hown : wr.ownsRow wr.heap.size 5 1 (.slice none 0 0) 0 (cellsOf []) := World.ownsRow_nil _ _ _ _
    have HL : Hid (([] : List UInt8).length ≤ 9) := by
      have h : ([] : List UInt8).length ≤ 9 := by simp
      exact h
    go_wp2_with (first
      | (at_builtin; refine wpList_append_own _ rfl _ _ 57 rfl wr.heap.size 5 i0 (.int .u8 0) 1 1 Try.underlying57 hi hz0 hz1 hz2 rfl (by decide) _ _ _ rfl (hown.alloc _) ⟨wr.heap.size, 0, none⟩ 1 1 [.int .u8 0] rfl rfl (one_new wr _) (one_cell _) (len_one HL (by omega)) (len_bytes HL (by omega)) (by simp) ?_)
      | go_in)
    intro v' w1 hown' hgrow _
    have R := rel_snoc (l := []) 0 (Nat.le_refl _) hown (Below.refl _ wr) hown' hgrow (by simp)
    clear hown' hgrow hown
    have hc := conv_own R.1 rfl
    go_wp2
    go_ret
    exact ⟨rfl, R.2⟩

set_option maxRecDepth 20000 in
theorem refInt_neg (n : Int) (w : World) (hn : n < 0) (hlo : -9223372036854775808 ≤ n) :
    Calls Try.prog 44 #[.int .i64 n] w fun e w' => e = .returned (.string ⟨(Pk.enc 0).toArray⟩) ∧ Below w.heap.size w w' := by
  have hE : Pk.enc 0 = [0] := by rw [Pk.enc_small (by omega)]; rfl
  rw [hE]
  go_enter Try.func44, Try.ntmps44
  go_wp2_with fail
  rw [conv_new w _ [0] 1 1 rfl (by simp [cellsOf])]
  go_wp2_with fail
  go_ret
  exact ⟨rfl, (Below.refl _ _).alloc (Nat.le_refl _) _⟩

theorem int_any (n : Int) (w : World) (hlo : -9223372036854775808 ≤ n) (hhi : n < 9223372036854775808) :
    Calls Try.prog 40 #[.int .i64 n] w fun e w' => e = .returned (.string ⟨(Pk.enc n.toNat).toArray⟩) ∧ Below w.heap.size w w' := by
  by_cases h : n < 0
  · rw [show n.toNat = 0 by omega]; exact int_neg n w h
  · obtain ⟨k, rfl⟩ := Int.eq_ofNat_of_zero_le (by omega : 0 ≤ n)
    exact int_nat k w (by omega)
theorem refInt_any (n : Int) (w : World) (hlo : -9223372036854775808 ≤ n) (hhi : n < 9223372036854775808) :
    Calls Try.prog 44 #[.int .i64 n] w fun e w' => e = .returned (.string ⟨(Pk.enc n.toNat).toArray⟩) ∧ Below w.heap.size w w' := by
  by_cases h : n < 0
  · rw [show n.toNat = 0 by omega]; exact refInt_neg n w h hlo
  · obtain ⟨k, rfl⟩ := Int.eq_ofNat_of_zero_le (by omega : 0 ≤ n)
    exact refInt_nat k k w (Nat.le_refl _) (by omega)

/-- A text behind its length. -/
def textL (l : List UInt8) : List UInt8 := Pk.enc l.length ++ l
theorem append_mk (l : List UInt8) (s : ByteArray) : (⟨l.toArray⟩ : ByteArray) ++ s = ⟨(l ++ s.data.toList).toArray⟩ := by
  apply ByteArray.ext; simp

theorem text_any (s : ByteArray) (w : World) (hs : s.size ≤ 1000000) :
    Calls Try.prog 85 #[.string s] w fun e w' => e = .returned (.string ⟨(textL s.data.toList).toArray⟩) ∧ Below w.heap.size w w' := by
  have h9 := Pk.enc_len9 (show s.size < 9223372036854775808 by omega)
  go_enter Try.func85, Try.ntmps85
  go_wp2_with fail
  refine (int_nat s.size _ (by omega)).mono ?_
  rintro e w' ⟨rfl, hb⟩
  go_wp2_with fail
  go_ret
  exact ⟨ret_str (by rw [append_mk, textL, size_len]), hb⟩
theorem refText_any (s : ByteArray) (w : World) (hs : s.size ≤ 1000000) :
    Calls Try.prog 88 #[.string s] w fun e w' => e = .returned (.string ⟨(textL s.data.toList).toArray⟩) ∧ Below w.heap.size w w' := by
  have h9 := Pk.enc_len9 (show s.size < 9223372036854775808 by omega)
  go_enter Try.func88, Try.ntmps88
  go_wp2_with fail
  refine (refInt_nat s.size s.size _ (Nat.le_refl _) (by omega)).mono ?_
  rintro e w' ⟨rfl, hb⟩
  go_wp2_with fail
  go_ret
  exact ⟨ret_str (by rw [append_mk, textL, size_len]), hb⟩
end Go.Proofs.Ytghkjbekjkejpaa
/- What was told is read again: the walks of Many and Text over a reader whose text begins so. -/
namespace Go.Proofs.Ytghkjbekjkejpaa
open Go.RowKit

theorem below_new (w : World) (o : Obj) : Below w.heap.size w (w.alloc o) := (Below.refl _ w).alloc (Nat.le_refl _) o
theorem But.setNew {b : Nat} {A W : World} (h : But b A W) {p : Addr} (hp : A.heap.size ≤ p.block) (v : Value) : But b A (W.setCell p v) := by
  have k := (Below.refl 0 W).setCell (p := p) (Nat.zero_le _) v
  exact ⟨k.os.trans h.os, k.tape.trans h.tape, k.output.trans h.output, Nat.le_trans h.size k.size, fun i hi hb => (Below.heap_setCell W p v i (Nat.ne_of_lt (Nat.lt_of_lt_of_le hi hp))).trans (h.block i hi hb)⟩
theorem But.new {b : Nat} {A W : World} (h : But b A W) (o : Obj) : But b A (W.alloc o) := h.trans (But.of (below_new W o))
theorem Rd.blk {w w' : World} {b : Nat} {l : List UInt8} {f : Nat} (h : Rd w b l f) (hb : w'.heap[b]? = w.heap[b]?) : Rd w' b l f :=
  ⟨(World.cell?_of_block (w := w) hb).trans h.left, (World.cell?_of_block (w := w) hb).trans h.bad, (World.frozen?_of_block (w := w) hb).trans h.free0, (World.frozen?_of_block (w := w) hb).trans h.free1⟩
theorem Rd.on {w w' : World} {b : Nat} {l : List UInt8} {f : Nat} (h : Rd w b l f) (hb : Below w.heap.size w w') : Rd w' b l f := h.below hb h.lt
theorem Rd.new {w : World} {b : Nat} {l : List UInt8} {f : Nat} (h : Rd w b l f) (o : Obj) : Rd (w.alloc o) b l f := h.on (below_new w o)
theorem Rd.setOther {w : World} {b : Nat} {l : List UInt8} {f : Nat} (h : Rd w b l f) {p : Addr} (hp : p.block ≠ b) (v : Value) : Rd (w.setCell p v) b l f := h.blk (Below.heap_setCell w p v b (Ne.symm hp))

theorem cut_low (m : List UInt8) (n : Nat) : (⟨m.toArray⟩ : ByteArray).extract 0 n = ⟨(m.take n).toArray⟩ := by
  apply ByteArray.ext
  apply Array.toList_inj.1
  simp [ByteArray.data_extract]
theorem cut_high (m : List UInt8) (n : Nat) : (⟨m.toArray⟩ : ByteArray).extract n m.length = ⟨(m.drop n).toArray⟩ := by
  apply ByteArray.ext
  apply Array.toList_inj.1
  simp only [ByteArray.data_extract, Array.toList_extract, List.extract_eq_take_drop]
  exact List.take_of_length_le (by simp)

/-! ### A row of one's own beside a reader -/
theorem own_but {w w' : World} {B s n g : Nat} {e : TypeId} {v : Value} {xs : List Value} (h : w.ownsRow B e s v n xs) (hb : But g w w') (hg : g < B) : w'.ownsRow B e s v n xs := by
  refine ⟨h.1, ?_⟩
  rcases h.2 with hn | ⟨q, cap, cur, hv, hbq, hq, r⟩
  · exact Or.inl hn
  · exact Or.inr ⟨q, cap, cur, hv, hbq, (hb.block q (Array.getElem?_eq_some_iff.1 hq).1 (by omega)).trans hq, r⟩
theorem But.grown {b : Nat} {A W W' : World} {row : Option Nat} (h : But b A W) (hg : W.grownBy W' row) (hr : ∀ g, row = some g → A.heap.size ≤ g) : But b A W' :=
  ⟨hg.os.trans h.os, hg.tape.trans h.tape, hg.output.trans h.output, Nat.le_trans h.size hg.size, fun k hk hne => (hg.block k (Nat.lt_of_lt_of_le hk h.size) (fun e => by have := hr k e.symm; omega)).trans (h.block k hk hne)⟩
theorem Rd.grown {w w' : World} {b : Nat} {l : List UInt8} {f : Nat} {row : Option Nat} (h : Rd w b l f) (hg : w.grownBy w' row) (hne : some b ≠ row) : Rd w' b l f := h.blk (hg.block b h.lt hne)

end Go.Proofs.Ytghkjbekjkejpaa
/- Small laws on worlds that all texts of this seat share. -/
namespace Go.Proofs.Ytghkjbekjkejpaa
open Go.RowKit
theorem bchain {a b c : World} (h : Below a.heap.size a b) (k : Below b.heap.size b c) : Below a.heap.size a c := h.trans (k.mono h.size)
theorem below_new2 (w : World) (o p : Obj) : Below w.heap.size w ((w.alloc o).alloc p) := bchain (below_new w o) (below_new _ p)
theorem below_new3 (w : World) (o p q : Obj) : Below w.heap.size w (((w.alloc o).alloc p).alloc q) := bchain (below_new2 w o p) (below_new _ q)
/-- What a cell holds, it holds behind a call that leaves all that was there. -/
theorem keep_cell {W w1 : World} {a : Addr} {v : Value} (hb : Below W.heap.size W w1) (h : W.cell? a = some v) : w1.cell? a = some v := (hb.cell (World.block_lt_of_cell? W a h)).trans h
theorem cat_lists (a b : List UInt8) : (⟨a.toArray⟩ : ByteArray) ++ ⟨b.toArray⟩ = ⟨(a ++ b).toArray⟩ := by apply ByteArray.ext; simp
theorem add_lists {x y : List UInt8} (h : ¬ 9223372036854775807 < x.length + y.length) (w : World) : (binOp .add 9 (.string ⟨x.toArray⟩) (.string ⟨y.toArray⟩)).run Try.prog w = .ok (.string ⟨(x ++ y).toArray⟩) w := by
  go_simp
  rw [cat_lists]
theorem stored2 {W : World} {b : Nat} {x0 y0 : Value} (h0 : W.cell? ⟨b, 0, none⟩ = some x0) (h1 : W.cell? ⟨b, 1, none⟩ = some y0) (x y : Value) :
    ((W.setCell ⟨b, 0, none⟩ x).setCell ⟨b, 1, none⟩ y).cell? ⟨b, 0, none⟩ = some x ∧ ((W.setCell ⟨b, 0, none⟩ x).setCell ⟨b, 1, none⟩ y).cell? ⟨b, 1, none⟩ = some y :=
  ⟨(World.cell?_setCell_other _ _ _ _ (by simp)).trans (World.cell?_setCell_same _ _ _ h0), World.cell?_setCell_same _ _ _ ((World.cell?_setCell_other _ _ _ _ (by simp)).trans h1)⟩
end Go.Proofs.Ytghkjbekjkejpaa
