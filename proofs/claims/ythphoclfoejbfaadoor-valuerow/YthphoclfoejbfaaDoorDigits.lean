/- The walk of the document's Digits. -/
import Derived.Test.YthphoclfoejbfaaDoorLay
import Derived.Test.YthphoclfoejbfaaDoorInts
import Derived.Deep.RegionHeld3
namespace Go.Proofs.YthphoclfoejbfaaDoor
open Go.RowKit

theorem bchain {a b c : World} (h : Below a.heap.size a b) (k : Below b.heap.size b c) : Below a.heap.size a c := h.trans (k.mono h.size)
theorem below_new (w : World) (o : Obj) : Below w.heap.size w (w.alloc o) := (Below.refl _ _).alloc (Nat.le_refl _) _
theorem below_new2 (w : World) (o p : Obj) : Below w.heap.size w ((w.alloc o).alloc p) := bchain (below_new w o) (below_new _ p)

/-- What a cell holds, it holds behind a call that leaves all that was there. -/
theorem keep_cell {W w1 : World} {a : Addr} {v : Value} (hb : Below W.heap.size W w1) (h : W.cell? a = some v) : w1.cell? a = some v := (hb.cell (World.block_lt_of_cell? W a h)).trans h

/-- One digit of ten. -/
theorem one_digit (d : Nat) (h : d < 10) : (⟨#[48, 49, 50, 51, 52, 53, 54, 55, 56, 57]⟩ : ByteArray).extract d (d + 1) = ⟨(Lib.decDigits d).toArray⟩ := by
  rw [Lib.decDigits_one h]
  have e : ∀ i : Fin 10, (⟨#[48, 49, 50, 51, 52, 53, 54, 55, 56, 57]⟩ : ByteArray).extract i.val (i.val + 1) = ⟨[UInt8.ofNat (48 + i.val)].toArray⟩ := by decide +kernel
  exact e ⟨d, h⟩
theorem digit_run (d : Nat) (h : d < 10) : ∀ wx, (Instr.slice 9 (.string ⟨#[48, 49, 50, 51, 52, 53, 54, 55, 56, 57]⟩) (some (.int .i64 (d : Int))) (some (.int .i64 ((d : Int) + 1))) none).run Tryd.prog wx = .ok (.string ⟨(Lib.decDigits d).toArray⟩) wx := by
  intro wx
  have hz : (⟨#[48, 49, 50, 51, 52, 53, 54, 55, 56, 57]⟩ : ByteArray).size = 10 := rfl
  have h1 := run_slice_string (P := Tryd.prog) wx 9 ⟨#[48, 49, 50, 51, 52, 53, 54, 55, 56, 57]⟩ .i64 .i64 (d : Int) ((d : Int) + 1) Tryd.underlying9 (by omega) (by omega) (by rw [hz]; omega)
  rw [h1, ← one_digit d h]
  congr 2
theorem dec_len {n : Nat} (h : n < 9223372036854775808) : (Lib.decDigits n).length ≤ 21 := by
  have := Lib.itoa_length_le (n : Int) (by omega) (by omega)
  rwa [Lib.itoa_nonneg] at this
theorem cat_lists (a b : List UInt8) : (⟨a.toArray⟩ : ByteArray) ++ ⟨b.toArray⟩ = ⟨(a ++ b).toArray⟩ := by apply ByteArray.ext; simp

set_option maxRecDepth 20000 in
theorem digits_nat (k : Nat) : ∀ (n : Nat) (w : World), n ≤ k → n < 9223372036854775808 →
    Calls Tryd.prog 35 #[.int .i64 (n : Int)] w fun e w' => e = .returned (.string ⟨(Lib.decDigits n).toArray⟩) ∧ Below w.heap.size w w' := by
  induction k with
  | zero =>
    intro n w hk hn
    obtain rfl : n = 0 := by omega
    have hd := digit_run 0 (by omega)
    go_enter Tryd.func35, Tryd.ntmps35
    go_wp2
    go_ret
    exact ⟨by rw [Lib.decDigits_one (by omega)]; rfl, Below.refl _ _⟩
  | succ k ih =>
    intro n w hk hn
    by_cases h : n < 10
    · have hi : (n : Int) < 10 := by omega
      have hd := digit_run n h
      go_enter Tryd.func35, Tryd.ntmps35
      go_wp2
      go_ret
      exact ⟨rfl, Below.refl _ _⟩
    · have hi : ¬ (n : Int) < 10 := by omega
      obtain ⟨m, hm⟩ : ∃ m, m = n / 10 := ⟨_, rfl⟩
      obtain ⟨d, hd⟩ : ∃ d, d = n % 10 := ⟨_, rfl⟩
      have hq : IntKind.i64.wrap ((n : Int) / 10) = (m : Int) := by rw [wrap_i64 (by omega) (by omega)]; omega
      have hr : (n : Int).tmod 10 = (d : Int) := by rw [Int.tmod_eq_emod_of_nonneg (by omega)]; omega
      have hw : IntKind.i64.wrap ((d : Int) + 1) = (d : Int) + 1 := wrap_i64 (by omega) (by omega)
      have hl := dec_len (n := m) (by omega)
      have hl' : (Lib.decDigits d).length ≤ 21 := dec_len (by omega)
      have hs := digit_run d (by omega)
      have HC := ih m
      have hmk : m ≤ k := by omega
      have hmn : m < 9223372036854775808 := by omega
      have he : Hid (Lib.decDigits m ++ Lib.decDigits d = Lib.decDigits n) := by
        have : Lib.decDigits m ++ Lib.decDigits d = Lib.decDigits n := by
          rw [Lib.decDigits_one (i := d) (by omega), hm, hd]; conv => rhs; rw [Lib.decDigits, dif_neg h]
        exact this
      have hsum : ¬ 9223372036854775807 < (Lib.decDigits m).length + (Lib.decDigits d).length := by omega
      clear hm hd
      go_enter Tryd.func35, Tryd.ntmps35
      go_wp2_with fail
      go_region_held3 (fun _ => True) (trivial) (first | (go_at_call 35; refine (HC _ hmk hmn).mono ?_; rintro e w1 ⟨rfl, hb⟩))
      go_wp2
      go_ret
      exact ⟨ret_str (by rw [cat_lists, he.out]), bchain (Below.refl _ _).drew hb⟩

set_option maxRecDepth 20000 in
theorem digits_any (n : Int) (w : World) (h0 : -9223372036854775808 ≤ n) (h1 : n ≤ 9223372036854775807) :
    Calls Tryd.prog 35 #[.int .i64 n] w fun e w' => e = .returned (.string ⟨(Lib.itoa n).toArray⟩) ∧ Below w.heap.size w w' := by
  by_cases hn : 0 ≤ n
  · obtain ⟨k, rfl⟩ := Int.eq_ofNat_of_zero_le hn
    rw [Lib.itoa_nonneg]
    exact digits_nat k k w (Nat.le_refl _) (by omega)
  · obtain ⟨a, rfl⟩ : ∃ a : Nat, n = -(a : Int) := ⟨n.natAbs, by omega⟩
    rw [Lib.itoa_neg a (by omega)]
    by_cases h : a < 10
    · have HC : ∀ w, Calls Tryd.prog 35 #[.int .i64 (a : Int)] w fun e w' => e = .returned (.string ⟨(Lib.decDigits a).toArray⟩) ∧ Below w.heap.size w w' := fun w => digits_nat a a w (Nat.le_refl _) (by omega)
      have hl := dec_len (n := a) (by omega)
      have t1 : -(a : Int) < 0 := by omega
      have t2 : -10 < -(a : Int) := by omega
      go_enter Tryd.func35, Tryd.ntmps35
      go_wp2_with (go_at_call 35; refine (HC _).mono ?_; rintro e w1 ⟨rfl, hb⟩)
      go_ret
      exact ⟨ret_str (cons_str 45 _), hb⟩
    · obtain ⟨m, hm⟩ : ∃ m, m = a / 10 := ⟨_, rfl⟩
      obtain ⟨d, hd⟩ : ∃ d, d = a % 10 := ⟨_, rfl⟩
      have HC : ∀ w, Calls Tryd.prog 35 #[.int .i64 ((a : Int) / 10)] w fun e w' => e = .returned (.string ⟨(Lib.decDigits m).toArray⟩) ∧ Below w.heap.size w w' := fun w => by
        rw [show (a : Int) / 10 = (m : Int) by omega]; exact digits_nat m m w (Nat.le_refl _) (by omega)
      have HD : ∀ w, Calls Tryd.prog 35 #[.int .i64 ((a : Int) % 10)] w fun e w' => e = .returned (.string ⟨(Lib.decDigits d).toArray⟩) ∧ Below w.heap.size w w' := fun w => by
        rw [show (a : Int) % 10 = (d : Int) by omega]; exact digits_nat d d w (Nat.le_refl _) (by omega)
      have hl := dec_len (n := m) (by omega)
      have hl' : (Lib.decDigits d).length ≤ 21 := dec_len (by omega)
      have t1 : -(a : Int) < 0 := by omega
      have t2 : ¬ -10 < -(a : Int) := by omega
      have he : Hid (Lib.decDigits m ++ Lib.decDigits d = Lib.decDigits a) := by
        have : Lib.decDigits m ++ Lib.decDigits d = Lib.decDigits a := by
          rw [Lib.decDigits_one (i := d) (by omega), hm, hd]; conv => rhs; rw [Lib.decDigits, dif_neg h]
        exact this
      clear hm hd
      go_enter Tryd.func35, Tryd.ntmps35
      go_wp2_with fail
      refine (HC _).mono ?_
      rintro e w1 ⟨rfl, hb⟩
      go_wp2_with fail
      refine (HD _).mono ?_
      rintro e w2 ⟨rfl, hb2⟩
      go_wp2
      go_ret
      exact ⟨ret_str (by rw [cons_str, cat_lists, List.cons_append, he.out]), bchain hb hb2⟩

theorem itoa_len {n : Int} (h0 : -9223372036854775808 ≤ n) (h1 : n ≤ 9223372036854775807) : (Lib.itoa n).length ≤ 21 := Lib.itoa_length_le n h0 h1
end Go.Proofs.YthphoclfoejbfaaDoor
