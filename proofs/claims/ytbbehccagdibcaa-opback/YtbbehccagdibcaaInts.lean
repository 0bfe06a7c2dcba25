/- The walks of the two 'Int's and the two 'Text's: a number's bytes, a text behind its length. -/
import Derived.Test.YtbbehccagdibcaaNumber
import Derived.WalkKit
import Derived.Laws.IdiomStrings
import Derived.Laws.BytesArg
import Derived.Deep.RegionWith
import Derived.WalkLawsBesides
namespace Go.Proofs.Ytbbehccagdibcaa
open Go.RowKit

/-- Bytes as cells. -/
def cellsOf (l : List UInt8) : List Value := l.map fun b => .int .u8 (b.toNat : Int)
theorem cellsOf_snoc (l : List UInt8) (b : UInt8) : cellsOf (l ++ [b]) = cellsOf l ++ [.int .u8 (b.toNat : Int)] := by simp [cellsOf]
theorem Try.info5 : (Try.prog.info? 5).map (fun i => (i.zero, i.size, i.bytes)) = some (some (.int .u8 0), 1, 1) := by kernel_rfl

/-- The text of a row of the call's own. -/
theorem conv_own {w : World} {base : Nat} {v : Value} {n : Nat} {l : List UInt8} (h : w.ownsRow base 5 1 v n (cellsOf l)) (hn : n = l.length) :
    (convert 87 9 v).run Try.prog w = .ok (.string ⟨l.toArray⟩) w := by
  subst hn
  rcases h.2 with ⟨rfl, h0⟩ | ⟨g, cap, cur, rfl, _⟩
  · obtain rfl : l = [] := List.length_eq_zero_iff.1 h0
    exact run_convert_bytes_nil w 87 5 Try.underlying87 Try.underlying5 0 0 9 Try.underlying9
  · refine run_convert_bytes_back w 87 9 5 ⟨g, 0, none⟩ cap l Try.underlying87 Try.underlying5 Try.underlying9 ?_
    intro j hj
    exact h.cells rfl j _ (by simp [cellsOf, List.getElem?_eq_getElem hj])

/-- The text of a literal's row. -/
theorem conv_new (w : World) (cs : Array Value) (l : List UInt8) (cap m : Nat) (hm : m = l.length) (hcs : cs = (cellsOf l).toArray) :
    (convert 87 9 (.slice (some ⟨w.heap.size, 0, none⟩) m cap)).run Try.prog (w.alloc (.cells cs 5)) = .ok (.string ⟨l.toArray⟩) (w.alloc (.cells cs 5)) := by
  subst hm hcs
  refine run_convert_bytes_back _ 87 9 5 ⟨w.heap.size, 0, none⟩ cap l Try.underlying87 Try.underlying5 Try.underlying9 ?_
  intro j hj
  have hadd : (⟨w.heap.size, 0, none⟩ : Addr).add j = ⟨w.heap.size, j, none⟩ := by unfold Addr.add; split <;> simp_all
  rw [hadd, World.cell?_alloc_at _ _ _ _ rfl]
  simp [cellsOf, List.getElem?_eq_getElem hj]

/-- A byte more. -/
theorem rel_snoc {w wr w1 : World} {B : Nat} {v v' : Value} {l : List UInt8} {o : Obj} {x : Int} (b : UInt8) (hB : B ≤ wr.heap.size) (hown : wr.ownsRow B 5 1 v l.length (cellsOf l)) (hnx : Below B w wr)
    (hown' : w1.ownsRow B 5 1 v' (l.length + 1) (cellsOf l ++ [.int .u8 x])) (hgrow : (wr.alloc o).grownBy w1 v.ownBlock) (hx : x = (b.toNat : Int)) :
    w1.ownsRow B 5 1 v' (l ++ [b]).length (cellsOf (l ++ [b])) ∧ Below B w w1 := by
  subst hx
  refine ⟨by rw [cellsOf_snoc, List.length_append]; exact hown', ?_⟩
  exact (hnx.alloc hB o).grown hgrow (by simp; omega) (fun k hk => (hown.lt k hk).1)

theorem one_new (wr : World) (x : Value) : ∀ j u, [x][j]? = some u → (wr.alloc (.cells #[x] 5)).cell? ((⟨wr.heap.size, 0, none⟩ : Addr).add j) = some u := by
  intro j u hj
  match j, hj with
  | 0, hj => simp at hj; subst hj; simp [Addr.add]
theorem one_cell (n : Int) : ∀ u ∈ [Value.int .u8 n], u.oneCell' = true := by intro u hu; simp at hu; subst hu; rfl
theorem len_one {l : List UInt8} {k : Nat} (h : Hid (l.length ≤ k)) (hk : k ≤ 1000000) : l.length + 1 ≤ maxLen := by have := h.out; unfold maxLen; omega
theorem len_bytes {l : List UInt8} {k : Nat} (h : Hid (l.length ≤ k)) (hk : k ≤ 1000000) : (l.length + 1) * 1 ≤ 140737488355328 := by have := h.out; omega

set_option maxRecDepth 20000 in
set_option maxHeartbeats 800000 in
theorem int_nat (n : Nat) (w : World) (hn : n < 9223372036854775808) :
    Calls Try.prog 45 #[.int .i64 n] w fun e w' => e = .returned (.string ⟨(Pk.enc n).toArray⟩) ∧ Below w.heap.size w w' := by
  obtain ⟨i0, hi, hz0, hz1, hz2⟩ := info_parts Try.info5
  have h9 := Pk.enc_len9 hn
  go_enter Try.func45, Try.ntmps45
  go_wp2
  go_loopw [0, 3] (fun m v wr => ∃ (k : Nat) (l : List UInt8), k ≤ n ∧ m = .int .i64 (k : Int) ∧ Hid (Pk.enc n = l ++ Pk.enc k) ∧ wr.ownsRow w.heap.size 5 1 v l.length (cellsOf l) ∧ Below w.heap.size w wr)
    (fun m _ _ => (intOf m).toNat)
  case atStart => exact ⟨n, [], by omega, by simp, rfl, World.ownsRow_nil _ _ _ _, Below.refl _ _⟩
  case round =>
    obtain ⟨k, l, hk, rfl, hE, hown, hnx⟩ := hrel
    have hsz := hnx.size
    have HL : Hid (l.length ≤ 9) := by
      have h : l.length ≤ 9 := by have := congrArg List.length hE.out; rw [List.length_append] at this; omega
      exact h
    clear h9
    by_cases hlt : k < 128
    · have HE : Hid (Pk.enc n = l ++ [UInt8.ofNat k]) := by
        have h : Pk.enc n = l ++ [UInt8.ofNat k] := by rw [hE.out, Pk.enc_small hlt]
        exact h
      clear hE
      go_wp2_with (first
        | (at_builtin; refine wpList_append_own _ rfl _ _ 87 rfl w.heap.size 5 i0 (.int .u8 0) 1 1 Try.underlying87 hi hz0 hz1 hz2 rfl (by decide) _ _ _ rfl (hown.alloc _) ⟨wr.heap.size, 0, none⟩ 1 1 [.int .u8 ((k : Int))] rfl rfl (one_new wr _) (one_cell _) (len_one HL (by omega)) (len_bytes HL (by omega)) (Nat.le_trans hsz (by simp)) ?_)
        | go_in)
      intro v' w1 hown' hgrow _
      have R := rel_snoc (UInt8.ofNat k) hsz hown hnx hown' hgrow (by simp; omega)
      clear hown' hgrow hown
      have hc := conv_own R.1 rfl
      go_wp2
      go_ret
      exact ⟨by rw [HE.out]; rfl, R.2⟩
    · have HE : Hid (Pk.enc n = (l ++ [UInt8.ofNat (k % 128 + 128)]) ++ Pk.enc (k / 128)) := by
        have h : Pk.enc n = (l ++ [UInt8.ofNat (k % 128 + 128)]) ++ Pk.enc (k / 128) := by rw [hE.out, Pk.enc_big hlt]; simp
        exact h
      clear hE
      go_wp2_with (first
        | (at_builtin; refine wpList_append_own _ rfl _ _ 87 rfl w.heap.size 5 i0 (.int .u8 0) 1 1 Try.underlying87 hi hz0 hz1 hz2 rfl (by decide) _ _ _ rfl (hown.alloc _) ⟨wr.heap.size, 0, none⟩ 1 1 [.int .u8 ((k : Int) % 128 + 128)] rfl rfl (one_new wr _) (one_cell _) (len_one HL (by omega)) (len_bytes HL (by omega)) (Nat.le_trans hsz (by simp)) ?_)
        | go_in)
      intro v' w1 hown' hgrow _
      have R := rel_snoc (UInt8.ofNat (k % 128 + 128)) hsz hown hnx hown' hgrow (by simp; omega)
      clear hown' hgrow hown
      go_wp2
      go_roundw
      case rel => exact ⟨k / 128, l ++ [UInt8.ofNat (k % 128 + 128)], by omega, by go_num, HE, R.1, R.2⟩
      case measure => simp [intOf]; omega

theorem wrap_i64 {e : Int} (h : -9223372036854775808 ≤ e) (h' : e < 9223372036854775808) : IntKind.i64.wrap e = e := by
  simp [IntKind.wrap, IntKind.signed, IntKind.bits]; try split
  all_goals omega
theorem wrap_u8 {e : Int} (h : 0 ≤ e) (h' : e < 256) : IntKind.u8.wrap e = e := by
  simp [IntKind.wrap, IntKind.signed, IntKind.bits]; omega
/-- The text of one byte, wherever its row lies. -/
theorem conv_one (x : Nat) (hx : x < 256) (w1 : World) (b : Nat) (hc : w1.cell? ⟨b, 0, none⟩ = some (.int .u8 (x : Int))) :
    (convert 87 9 (.slice (some ⟨b, 0, none⟩) 1 1)).run Try.prog w1 = .ok (.string ⟨#[UInt8.ofNat x]⟩) w1 := by
  refine run_convert_bytes_back _ 87 9 5 ⟨b, 0, none⟩ 1 [UInt8.ofNat x] Try.underlying87 Try.underlying5 Try.underlying9 ?_
  intro j hj
  match j, hj with
  | 0, _ => simpa [Addr.add, Nat.mod_eq_of_lt hx] using hc

theorem cell_after {w w1 : World} {v : Value} (hb : Below (w.alloc (.cells #[v] 5)).drew.heap.size (w.alloc (.cells #[v] 5)).drew w1) : w1.cell? ⟨w.heap.size, 0, none⟩ = some v :=
  (hb.cell (p := ⟨w.heap.size, 0, none⟩) (by show w.heap.size < (w.alloc _).heap.size; simp)).trans (by simp)
theorem below_after {w w1 : World} {o : Obj} (hb : Below (w.alloc o).drew.heap.size (w.alloc o).drew w1) : Below w.heap.size w w1 :=
  (((Below.refl _ w).alloc (Nat.le_refl _) o).drew).trans (hb.mono (by show w.heap.size ≤ (w.alloc _).heap.size; simp))
theorem below_ahead {w w1 : World} (hb : Below w.drew.heap.size w.drew w1) (o : Obj) : Below w.heap.size w (w1.alloc o) :=
  ((Below.refl _ w).drew.trans hb).alloc hb.size o
theorem ret_str {a b : ByteArray} (h : a = b) : Ending.returned (.string a) = .returned (.string b) := by rw [h]
theorem cons_str (x : UInt8) (l : List UInt8) : (⟨#[x]⟩ : ByteArray) ++ ⟨l.toArray⟩ = ⟨(x :: l).toArray⟩ := by
  apply ByteArray.ext; simp

set_option maxRecDepth 20000 in
set_option maxHeartbeats 2000000 in
theorem refInt_nat (k : Nat) : ∀ (n : Nat) (w : World), n ≤ k → n < 9223372036854775808 →
    Calls Try.prog 52 #[.int .i64 n] w fun e w' => e = .returned (.string ⟨(Pk.enc n).toArray⟩) ∧ Below w.heap.size w w' := by
  induction k with
  | zero =>
    intro n w hk hn
    obtain rfl : n = 0 := by omega
    have hE : Pk.enc 0 = [0] := by rw [Pk.enc_small (by omega)]; rfl
    rw [hE]
    go_enter Try.func52, Try.ntmps52
    go_wp2_with fail
    rw [conv_new w _ [0] 1 1 rfl (by simp [cellsOf])]
    go_wp2_with fail
    go_ret
    exact ⟨rfl, (Below.refl _ _).alloc (Nat.le_refl _) _⟩
  | succ k ih =>
    intro n w hk hn
    by_cases hlt : n < 128
    · rw [Pk.enc_small hlt]
      go_enter Try.func52, Try.ntmps52
      go_wp2_with fail
      rw [conv_new w _ [UInt8.ofNat n] 1 1 rfl (by simp [cellsOf]; omega)]
      go_wp2_with fail
      go_ret
      exact ⟨rfl, (Below.refl _ _).alloc (Nat.le_refl _) _⟩
    · obtain ⟨x, d, hx, hd, hd2, HE, hm, hq⟩ : ∃ x d : Nat, x < 256 ∧ d ≤ k ∧ d < 9223372036854775808 ∧ Hid (Pk.enc n = UInt8.ofNat x :: Pk.enc d) ∧ IntKind.u8.wrap (IntKind.i64.wrap ((n : Int).tmod 128 + 128)) = (x : Int) ∧ IntKind.i64.wrap ((n : Int) / 128) = (d : Int) := by
        refine ⟨n % 128 + 128, n / 128, by omega, by omega, by omega, Pk.enc_big hlt, ?_, ?_⟩
        · rw [Int.tmod_eq_emod_of_nonneg (by omega), wrap_i64 (by omega) (by omega), wrap_u8 (by omega) (by omega)]; simp
        · rw [wrap_i64 (by omega) (by omega)]; simp
      have hcv : ∀ (w1 : World) (b : Nat), w1.cell? ⟨b, 0, none⟩ = some (.int .u8 (x : Int)) → (convert 87 9 (.slice (some ⟨b, 0, none⟩) 1 1)).run Try.prog w1 = .ok (.string ⟨#[UInt8.ofNat x]⟩) w1 := fun w1 b hc => conv_one x hx w1 b hc
      have h9 := Pk.enc_len9 hd2
      go_enter Try.func52, Try.ntmps52
      go_wp2_with fail
      go_region_with (first
        | (go_at_call 52; refine (ih d _ hd hd2).mono ?_; rintro e w1 ⟨rfl, hb⟩; first | (have hc1 := cell_after hb) | skip))
      all_goals go_wp2_with fail
      all_goals go_ret
      all_goals refine ⟨?_, ?_⟩
      all_goals first | exact below_after hb | exact below_ahead hb _ | (rw [HE.out]; exact ret_str (cons_str _ _))

set_option maxRecDepth 20000 in
set_option maxHeartbeats 800000 in
/-- Of a number below 0 the bytes are those of 0. -/
theorem int_neg (n : Int) (w : World) (hn : n < 0) :
    Calls Try.prog 45 #[.int .i64 n] w fun e w' => e = .returned (.string ⟨(Pk.enc 0).toArray⟩) ∧ Below w.heap.size w w' := by
  obtain ⟨i0, hi, hz0, hz1, hz2⟩ := info_parts Try.info5
  have hE : Pk.enc 0 = [0] := by rw [Pk.enc_small (by omega)]; rfl
  rw [hE]
  go_enter Try.func45, Try.ntmps45
  go_wp2
  go_loopw [0, 3] (fun m v wr => m = .int .i64 0 ∧ v = .slice none 0 0 ∧ wr = w) (fun m _ _ => 0)
  case atStart => exact ⟨rfl, rfl, rfl⟩
  case round =>
    obtain ⟨rfl, rfl, rfl⟩ := hrel
    have hown : wr.ownsRow wr.heap.size 5 1 (.slice none 0 0) 0 (cellsOf []) := World.ownsRow_nil _ _ _ _
    have HL : Hid (([] : List UInt8).length ≤ 9) := by
      have h : ([] : List UInt8).length ≤ 9 := by simp
      exact h
    go_wp2_with (first
      | (at_builtin; refine wpList_append_own _ rfl _ _ 87 rfl wr.heap.size 5 i0 (.int .u8 0) 1 1 Try.underlying87 hi hz0 hz1 hz2 rfl (by decide) _ _ _ rfl (hown.alloc _) ⟨wr.heap.size, 0, none⟩ 1 1 [.int .u8 0] rfl rfl (one_new wr _) (one_cell _) (len_one HL (by omega)) (len_bytes HL (by omega)) (by simp) ?_)
      | go_in)
    intro v' w1 hown' hgrow _
    have R := rel_snoc (l := []) 0 (Nat.le_refl _) hown (Below.refl _ wr) hown' hgrow (by simp)
    clear hown' hgrow hown
    have hc := conv_own R.1 rfl
    go_wp2
    go_ret
    exact ⟨rfl, R.2⟩

set_option maxRecDepth 20000 in
theorem refInt_neg (n : Int) (w : World) (hn : n < 0) (hlo : -9223372036854775808 ≤ n) :
    Calls Try.prog 52 #[.int .i64 n] w fun e w' => e = .returned (.string ⟨(Pk.enc 0).toArray⟩) ∧ Below w.heap.size w w' := by
  have hE : Pk.enc 0 = [0] := by rw [Pk.enc_small (by omega)]; rfl
  rw [hE]
  go_enter Try.func52, Try.ntmps52
  go_wp2_with fail
  rw [conv_new w _ [0] 1 1 rfl (by simp [cellsOf])]
  go_wp2_with fail
  go_ret
  exact ⟨rfl, (Below.refl _ _).alloc (Nat.le_refl _) _⟩

theorem int_any (n : Int) (w : World) (hlo : -9223372036854775808 ≤ n) (hhi : n < 9223372036854775808) :
    Calls Try.prog 45 #[.int .i64 n] w fun e w' => e = .returned (.string ⟨(Pk.enc n.toNat).toArray⟩) ∧ Below w.heap.size w w' := by
  by_cases h : n < 0
  · rw [show n.toNat = 0 by omega]; exact int_neg n w h
  · obtain ⟨k, rfl⟩ := Int.eq_ofNat_of_zero_le (by omega : 0 ≤ n)
    exact int_nat k w (by omega)
theorem refInt_any (n : Int) (w : World) (hlo : -9223372036854775808 ≤ n) (hhi : n < 9223372036854775808) :
    Calls Try.prog 52 #[.int .i64 n] w fun e w' => e = .returned (.string ⟨(Pk.enc n.toNat).toArray⟩) ∧ Below w.heap.size w w' := by
  by_cases h : n < 0
  · rw [show n.toNat = 0 by omega]; exact refInt_neg n w h hlo
  · obtain ⟨k, rfl⟩ := Int.eq_ofNat_of_zero_le (by omega : 0 ≤ n)
    exact refInt_nat k k w (Nat.le_refl _) (by omega)

/-- A text behind its length. -/
def textL (l : List UInt8) : List UInt8 := Pk.enc l.length ++ l
theorem append_mk (l : List UInt8) (s : ByteArray) : (⟨l.toArray⟩ : ByteArray) ++ s = ⟨(l ++ s.data.toList).toArray⟩ := by
  apply ByteArray.ext; simp

theorem text_any (s : ByteArray) (w : World) (hs : s.size ≤ 1000000) :
    Calls Try.prog 84 #[.string s] w fun e w' => e = .returned (.string ⟨(textL s.data.toList).toArray⟩) ∧ Below w.heap.size w w' := by
  have h9 := Pk.enc_len9 (show s.size < 9223372036854775808 by omega)
  go_enter Try.func84, Try.ntmps84
  go_wp2_with fail
  refine (int_nat s.size _ (by omega)).mono ?_
  rintro e w' ⟨rfl, hb⟩
  go_wp2_with fail
  go_ret
  exact ⟨ret_str (by rw [append_mk, textL, size_len]), hb⟩
theorem refText_any (s : ByteArray) (w : World) (hs : s.size ≤ 1000000) :
    Calls Try.prog 89 #[.string s] w fun e w' => e = .returned (.string ⟨(textL s.data.toList).toArray⟩) ∧ Below w.heap.size w w' := by
  have h9 := Pk.enc_len9 (show s.size < 9223372036854775808 by omega)
  go_enter Try.func89, Try.ntmps89
  go_wp2_with fail
  refine (refInt_nat s.size s.size _ (Nat.le_refl _) (by omega)).mono ?_
  rintro e w' ⟨rfl, hb⟩
  go_wp2_with fail
  go_ret
  exact ⟨ret_str (by rw [append_mk, textL, size_len]), hb⟩
end Go.Proofs.Ytbbehccagdibcaa
