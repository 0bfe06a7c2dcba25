/- strings.Compare, which lies proved over any program, laid at this program · The walks of the program's Compare and of the document's. -/
import Derived.Shelf.Small.Strs
import Derived.Test.YtjbbhfkbhpagbaaChecked
import Derived.Test.YtjbbhfkbhpagbaaValAll
import Derived.Test.YtjbbhfkbhpagbaaDotAll
import Derived.Test.YtjbbhfkbhpagbaaCompP
import Derived.Test.YtjbbhfkbhpagbaaRegsAll
/- strings.Compare, which lies proved over any program, laid at this program. -/
namespace Go.Proofs.Ytjbbhfkbhpagbaa
open Go.Shelf Go.RowKit

/-- Which number the library's functions and types have here. -/
def strRen : Ren := ⟨fun | 106 => 47 | 213 => 74 | 265 => 90 | n => n, fun | n => n, fun | n => n⟩
theorem lay106 : Lays.n106 Try.prog strRen := {
  mixed := by kernel_rfl
  f106 := Try.func47.trans (congrArg some (by kernel_rfl))
  f213 := Try.func74.trans (congrArg some (by kernel_rfl))
  f265 := Try.func90.trans (congrArg some (by kernel_rfl))
  t3 := Try.underlying3, a3 := Try.isAgg3, z3 := Try.sizeOf3, v3 := Try.zeroValue3
  t9 := Try.underlying9, a9 := Try.isAgg9, z9 := Try.sizeOf9, v9 := Try.zeroValue9 }
theorem cmpS_any (a b : ByteArray) (w : World) : Calls Try.prog 47 #[.string a, .string b] w fun e w' => e = .returned (.int .i64 (Lib.compareBytes a.data.toList b.data.toList)) ∧ w' = w := Any.strings_Compare lay106 a b w
end Go.Proofs.Ytjbbhfkbhpagbaa
/- The walks of the program's Compare and of the document's. -/
namespace Go.Proofs.Ytjbbhfkbhpagbaa.V
open Go.RowKit
open Go.Proofs.Ytjbbhfkbhpagbaa.U (size_len wrap_i64)

set_option maxRecDepth 20000 in
/-- Of three numbers the first that is not 0. -/
theorem or_three (b : Nat) (x y z : Int) (w : World) (h0 : w.cell? ⟨b, 0, none⟩ = some (.int .i64 x)) (h1 : w.cell? ⟨b, 1, none⟩ = some (.int .i64 y)) (h2 : w.cell? ⟨b, 2, none⟩ = some (.int .i64 z)) :
    Calls Try.prog 45 #[.slice (some ⟨b, 0, none⟩) 3 3] w fun e w' => e = .returned (.int .i64 (Dt.two x (Dt.two y z))) ∧ w' = w := by
  by_cases hx : x = 0
  · subst hx
    rw [show Dt.two 0 (Dt.two y z) = Dt.two y z from rfl]
    by_cases hy : y = 0
    · subst hy
      rw [show Dt.two 0 z = z from rfl]
      by_cases hz : z = 0
      · subst hz
        go_enter Try.func45, Try.ntmps45
        go_wp2
        go_loop [8] (fun i => ∃ k : Nat, k ≤ 3 ∧ i = .int .i64 k) (fun i => 3 - (intOf i).toNat)
        case atStart => exact ⟨0, by omega, rfl⟩
        case round =>
          obtain ⟨k, hk, rfl⟩ := hrel
          match k, hk with
          | 0, _ =>
            go_wp2
            go_round
            case rel => exact ⟨1, by omega, rfl⟩
            case measure => simp [intOf]
          | 1, _ =>
            go_wp2
            go_round
            case rel => exact ⟨2, by omega, rfl⟩
            case measure => simp [intOf]
          | 2, _ =>
            go_wp2
            go_round
            case rel => exact ⟨3, by omega, rfl⟩
            case measure => simp [intOf]
          | 3, _ =>
            go_wp2
            go_ret
            exact ⟨rfl, rfl⟩
      · have hzb : (z != 0) = true := by simpa using hz
        go_enter Try.func45, Try.ntmps45
        go_wp2
        go_loop [8] (fun i => ∃ k : Nat, k ≤ 2 ∧ i = .int .i64 k) (fun i => 3 - (intOf i).toNat)
        case atStart => exact ⟨0, by omega, rfl⟩
        case round =>
          obtain ⟨k, hk, rfl⟩ := hrel
          match k, hk with
          | 0, _ =>
            go_wp2
            go_round
            case rel => exact ⟨1, by omega, rfl⟩
            case measure => simp [intOf]
          | 1, _ =>
            go_wp2
            go_round
            case rel => exact ⟨2, by omega, rfl⟩
            case measure => simp [intOf]
          | 2, _ =>
            go_wp2
            go_ret
            exact ⟨rfl, rfl⟩
    · rw [show Dt.two y z = y by unfold Dt.two; rw [if_neg hy]]
      have hyb : (y != 0) = true := by simpa using hy
      go_enter Try.func45, Try.ntmps45
      go_wp2
      go_loop [8] (fun i => ∃ k : Nat, k ≤ 1 ∧ i = .int .i64 k) (fun i => 3 - (intOf i).toNat)
      case atStart => exact ⟨0, by omega, rfl⟩
      case round =>
        obtain ⟨k, hk, rfl⟩ := hrel
        match k, hk with
        | 0, _ =>
          go_wp2
          go_round
          case rel => exact ⟨1, by omega, rfl⟩
          case measure => simp [intOf]
        | 1, _ =>
          go_wp2
          go_ret
          exact ⟨rfl, rfl⟩
  · rw [show Dt.two x (Dt.two y z) = x by unfold Dt.two; rw [if_neg hx]]
    have hxb : (x != 0) = true := by simpa using hx
    go_enter Try.func45, Try.ntmps45
    go_wp2
    go_loop [8] (fun i => i = .int .i64 0) (fun _ => 0)
    case atStart => rfl
    case round =>
      subst hrel
      go_wp2
      go_ret
      exact ⟨rfl, rfl⟩

theorem or_new (W : World) (o p : Obj) (x y z : Int) : Calls Try.prog 45 #[.slice (some ⟨W.heap.size + 1 + 1, 0, none⟩) 3 3] (((W.alloc o).alloc p).alloc (.cells #[.int .i64 x, .int .i64 y, .int .i64 z] 3)).drew
    fun e w' => e = .returned (.int .i64 (Dt.two x (Dt.two y z))) ∧ w' = (((W.alloc o).alloc p).alloc (.cells #[.int .i64 x, .int .i64 y, .int .i64 z] 3)).drew := by
  have e : ((W.alloc o).alloc p).heap.size = W.heap.size + 1 + 1 := by simp
  rw [← e]
  generalize (W.alloc o).alloc p = V at *
  exact or_three _ x y z _ (by simp) (by simp) (by simp)

theorem cmpL_any (a b : List UInt8) (w : World) : Calls Try.prog 47 #[.string ⟨a.toArray⟩, .string ⟨b.toArray⟩] w fun e w' => e = .returned (.int .i64 (Lib.compareBytes a b)) ∧ w' = w := cmpS_any _ _ w

set_option maxRecDepth 20000 in
theorem comp_exact (k n : Int) (l : List UInt8) (k' n' : Int) (l' : List UInt8) (w : World) : Calls Try.prog 27 #[valV k n l, valV k' n' l'] w fun e w' => e = .returned (.int .i64 (Rg.comp (k, n, l) (k', n', l'))) ∧ ∃ a b c, w' = (((w.alloc a).alloc b).alloc c).drew := by
  go_enter Try.func27, Try.ntmps27
  go_wp2_with fail
  go_region_held3 (fun w' => w'.cell? ⟨w.heap.size, 0, none⟩ = some (.int .i64 k) ∧ w'.cell? ⟨w.heap.size, 1, none⟩ = some (.int .i64 n) ∧ w'.cell? ⟨w.heap.size, 2, none⟩ = some (.string ⟨l.toArray⟩) ∧ w'.cell? ⟨w.heap.size + 1, 0, none⟩ = some (.int .i64 k') ∧ w'.cell? ⟨w.heap.size + 1, 1, none⟩ = some (.int .i64 n') ∧ w'.cell? ⟨w.heap.size + 1, 2, none⟩ = some (.string ⟨l'.toArray⟩)) (go_keep)
    (first | (go_at_call 46; refine (D.cmp_any _ _ _).mono ?_; rintro e w1 ⟨rfl, rfl⟩) | (go_at_call 47; refine (cmpL_any _ _ _).mono ?_; rintro e w1 ⟨rfl, rfl⟩) | (go_at_call 45; refine (or_new _ _ _ _ _ _).mono ?_; rintro e w1 ⟨rfl, rfl⟩))
  go_wp2
  go_ret
  exact ⟨rfl, _, _, _, rfl⟩

/-! ### The document's -/
theorem ints_any (x y : Int) (w : World) : Calls Try.prog 75 #[.int .i64 x, .int .i64 y] w fun e w' => e = .returned (.int .i64 (Dt.compareInt x y)) ∧ w' = w := by
  by_cases h : x < y
  · rw [show Dt.compareInt x y = -1 by unfold Dt.compareInt; rw [if_pos h]]
    go_enter Try.func75, Try.ntmps75
    go_wp2
    go_ret
    exact ⟨rfl, rfl⟩
  · by_cases h' : y < x
    · rw [show Dt.compareInt x y = 1 by unfold Dt.compareInt; rw [if_neg h, if_pos h']]
      go_enter Try.func75, Try.ntmps75
      go_wp2
      go_ret
      exact ⟨rfl, rfl⟩
    · rw [show Dt.compareInt x y = 0 by unfold Dt.compareInt; rw [if_neg h, if_neg h']]
      go_enter Try.func75, Try.ntmps75
      go_wp2
      go_ret
      exact ⟨rfl, rfl⟩

theorem drop_cons {s : ByteArray} {pos : Nat} (h : pos < s.size) : s.data.toList.drop pos = s[pos] :: s.data.toList.drop (pos + 1) := by
  rw [List.drop_eq_getElem_cons (by rw [size_len]; exact h)]
  rfl
/-- How far two texts are alike. -/
def likeTo (a b : List UInt8) (k : Nat) : Prop := k ≤ a.length ∧ k ≤ b.length ∧ Lib.compareBytes a b = Lib.compareBytes (a.drop k) (b.drop k)
theorem likeTo_zero (a b : List UInt8) : likeTo a b 0 := ⟨by omega, by omega, by simp⟩
theorem likeTo_succ {s t : ByteArray} {k : Nat} (h : likeTo s.data.toList t.data.toList k) (h1 : k < s.size) (h2 : k < t.size) (e : s[k] = t[k]) : likeTo s.data.toList t.data.toList (k + 1) := by
  refine ⟨by rw [size_len]; omega, by rw [size_len]; omega, ?_⟩
  rw [h.2.2, drop_cons h1, drop_cons h2, e]
  simp [Lib.compareBytes]
theorem likeTo_diff {s t : ByteArray} {k : Nat} (h : likeTo s.data.toList t.data.toList k) (h1 : k < s.size) (h2 : k < t.size) (e : s[k] ≠ t[k]) : Lib.compareBytes s.data.toList t.data.toList = Dt.compareInt (s[k].toNat : Int) (t[k].toNat : Int) := by
  rw [h.2.2, drop_cons h1, drop_cons h2]
  have : s[k].toNat ≠ t[k].toNat := fun x => e (UInt8.toNat_inj.1 x)
  simp only [Lib.compareBytes, Dt.compareInt, UInt8.lt_iff_toNat_lt]
  by_cases h3 : s[k].toNat < t[k].toNat
  · rw [if_pos h3, if_pos (by omega)]
  · rw [if_neg h3, if_pos (by omega), if_neg (by omega), if_pos (by omega)]
theorem likeTo_end {s t : ByteArray} {k : Nat} (h : likeTo s.data.toList t.data.toList k) (hk : ¬ (k < s.size ∧ k < t.size)) : Lib.compareBytes s.data.toList t.data.toList = Dt.compareInt (s.size : Int) (t.size : Int) := by
  obtain ⟨h1, h2, h3⟩ := h
  rw [size_len] at h1 h2
  rw [h3]
  by_cases e : k < s.size
  · have e2 : k = t.size := by omega
    rw [drop_cons e, show t.data.toList.drop k = [] from List.drop_eq_nil_of_le (by rw [size_len]; omega)]
    simp only [Lib.compareBytes, Dt.compareInt]
    rw [if_neg (by omega), if_pos (by omega)]
  · rw [show s.data.toList.drop k = [] from List.drop_eq_nil_of_le (by rw [size_len]; omega)]
    by_cases e2 : k < t.size
    · rw [drop_cons e2]
      simp only [Lib.compareBytes, Dt.compareInt]
      rw [if_pos (by omega)]
    · rw [show t.data.toList.drop k = [] from List.drop_eq_nil_of_le (by rw [size_len]; omega)]
      simp only [Lib.compareBytes, Dt.compareInt]
      rw [if_neg (by omega), if_neg (by omega)]

set_option maxRecDepth 20000 in
set_option maxHeartbeats 2000000 in
theorem refTexts_any (s t : ByteArray) (w : World) (hs : s.size ≤ 2000000) :
    Calls Try.prog 57 #[.string s, .string t] w fun e w' => e = .returned (.int .i64 (Lib.compareBytes s.data.toList t.data.toList)) ∧ Below w.heap.size w w' := by
  go_enter Try.func57, Try.ntmps57
  go_wp2
  go_loopw [5] (fun i wr => ∃ k : Nat, i = .int .i64 k ∧ likeTo s.data.toList t.data.toList k ∧ Below w.heap.size w wr) (fun i _ => s.size - (intOf i).toNat)
  case atStart => exact ⟨0, rfl, likeTo_zero _ _, Below.refl _ w⟩
  case round =>
    obtain ⟨k, rfl, hR, hbw⟩ := hrel
    have hl1 := hR.1
    have hl2 := hR.2.1
    rw [size_len] at hl1 hl2
    by_cases h1 : k < s.size
    · by_cases h2 : k < t.size
      · by_cases e : s[k] = t[k]
        · have HR : Hid (likeTo s.data.toList t.data.toList (k + 1)) := by
            have h := likeTo_succ hR h1 h2 e
            exact h
          have en : (((s[k]).toNat : Int) != ((t[k]).toNat : Int)) = false := by rw [e]; simp
          clear hR e
          go_wp2
          go_region
          all_goals
            go_wp2
            go_roundw
            case rel => exact ⟨k + 1, by go_num, HR.out, hbw.drew⟩
            case measure => simp [intOf]; omega
        · have HL : Hid (Lib.compareBytes s.data.toList t.data.toList = Dt.compareInt (s[k].toNat : Int) (t[k].toNat : Int)) := by
            have h := likeTo_diff hR h1 h2 e
            exact h
          have hn : s[k].toNat ≠ t[k].toNat := fun x => e (UInt8.toNat_inj.1 x)
          have en : (((s[k]).toNat : Int) != ((t[k]).toNat : Int)) = true := by simp; omega
          have hw1 : IntKind.i64.wrap (s[k].toNat : Int) = (s[k].toNat : Int) := wrap_i64 (by omega) (by have := s[k].toNat_lt; omega)
          have hw2 : IntKind.i64.wrap (t[k].toNat : Int) = (t[k].toNat : Int) := wrap_i64 (by omega) (by have := t[k].toNat_lt; omega)
          have HC : ∀ W, Calls Try.prog 75 #[.int .i64 (IntKind.i64.wrap (s[k].toNat : Int)), .int .i64 (IntKind.i64.wrap (t[k].toNat : Int))] W fun e w' => e = .returned (.int .i64 (Lib.compareBytes s.data.toList t.data.toList)) ∧ w' = W := fun W => by
            rw [hw1, hw2, HL.out]; exact ints_any _ _ W
          clear hR e hw1 hw2 HL
          go_wp2
          go_region
          all_goals
            go_wp2_with fail
            go_region_held3 (fun _ => True) (trivial) (first | (go_at_call 75; refine (HC _).mono ?_; rintro e w1 ⟨rfl, rfl⟩))
            all_goals first
              | (go_ret; exact ⟨rfl, hbw.drew.drew⟩)
              | (go_wp2; go_ret; exact ⟨rfl, hbw.drew.drew⟩)
              | (go_wp2; all_goals (go_ret; exact ⟨rfl, hbw.drew.drew⟩))
      · have HL : Hid (Lib.compareBytes s.data.toList t.data.toList = Dt.compareInt (s.size : Int) (t.size : Int)) := by
          have h := likeTo_end hR (by omega)
          exact h
        clear hR
        go_wp2_with (go_at_call 75; refine (ints_any _ _ _).mono ?_; rintro e w1 ⟨rfl, rfl⟩)
        go_ret
        exact ⟨by rw [HL.out]; rfl, hbw⟩
    · have HL : Hid (Lib.compareBytes s.data.toList t.data.toList = Dt.compareInt (s.size : Int) (t.size : Int)) := by
        have h := likeTo_end hR (by omega)
        exact h
      clear hR
      go_wp2_with (go_at_call 75; refine (ints_any _ _ _).mono ?_; rintro e w1 ⟨rfl, rfl⟩)
      go_ret
      exact ⟨by rw [HL.out]; rfl, hbw⟩

theorem refTexts_list (a b : List UInt8) (w : World) (ha : a.length ≤ 2000000) : Calls Try.prog 57 #[.string ⟨a.toArray⟩, .string ⟨b.toArray⟩] w fun e w' => e = .returned (.int .i64 (Lib.compareBytes a b)) ∧ Below w.heap.size w w' :=
  refTexts_any ⟨a.toArray⟩ ⟨b.toArray⟩ w (by rw [mk_size]; exact ha)

set_option maxRecDepth 20000 in
theorem refComp_any (k n : Int) (l : List UInt8) (k' n' : Int) (l' : List UInt8) (w : World) (hl : l.length ≤ 2000000) : Calls Try.prog 48 #[valV k n l, valV k' n' l'] w fun e w' => e = .returned (.int .i64 (Rg.comp (k, n, l) (k', n', l'))) ∧ Below w.heap.size w w' := by
  have C := fun w => refTexts_list l l' w hl
  by_cases h1 : k = k'
  · subst h1
    by_cases h2 : n = n'
    · subst h2
      rw [show Rg.comp (k, n, l) (k, n, l') = Lib.compareBytes l l' by unfold Rg.comp; simp only; rw [Dt.compareInt_zero.2 rfl, Dt.compareInt_zero.2 rfl]; rfl]
      generalize Lib.compareBytes l l' = z at *
      go_enter Try.func48, Try.ntmps48
      go_wp2_with (go_at_call 57; refine (C _).mono ?_; rintro e w1 ⟨rfl, hb⟩)
      go_ret
      exact ⟨rfl, bchain (below_new2 _ _ _) hb⟩
    · have hz : Dt.compareInt n n' ≠ 0 := fun e => h2 (Dt.compareInt_zero.1 e)
      rw [show Rg.comp (k, n, l) (k, n', l') = Dt.compareInt n n' by unfold Rg.comp; simp only; rw [Dt.compareInt_zero.2 rfl]; unfold Dt.two; rw [if_pos rfl, if_neg hz]]
      have e2 : (n != n') = true := by simpa using h2
      clear hz
      go_enter Try.func48, Try.ntmps48
      go_wp2_with (go_at_call 75; refine (ints_any _ _ _).mono ?_; rintro e w1 ⟨rfl, rfl⟩)
      go_ret
      exact ⟨rfl, below_new2 _ _ _⟩
  · have hz : Dt.compareInt k k' ≠ 0 := fun e => h1 (Dt.compareInt_zero.1 e)
    rw [show Rg.comp (k, n, l) (k', n', l') = Dt.compareInt k k' by unfold Rg.comp Dt.two; simp only; rw [if_neg hz]]
    have e1 : (k != k') = true := by simpa using h1
    clear hz
    go_enter Try.func48, Try.ntmps48
    go_wp2_with (go_at_call 75; refine (ints_any _ _ _).mono ?_; rintro e w1 ⟨rfl, rfl⟩)
    go_ret
    exact ⟨rfl, below_new2 _ _ _⟩
end Go.Proofs.Ytjbbhfkbhpagbaa.V
