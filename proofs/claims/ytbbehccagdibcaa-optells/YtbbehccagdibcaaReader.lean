/- The walks of the reader's methods, over a reader that lies in memory of its own. -/
import Derived.Test.YtbbehccagdibcaaNumber
import Derived.WalkKit
namespace Go.Proofs.Ytbbehccagdibcaa
open Go.RowKit

/-- All that was there is as it was, but for one block. -/
structure But (b : Nat) (w w' : World) : Prop where
  os : w'.os = w.os
  tape : w'.tape = w.tape
  output : w'.output = w.output
  size : w.heap.size ≤ w'.heap.size
  block : ∀ k, k < w.heap.size → k ≠ b → w'.heap[k]? = w.heap[k]?
theorem But.refl (b : Nat) (w : World) : But b w w := ⟨rfl, rfl, rfl, Nat.le_refl _, fun _ _ _ => rfl⟩
theorem But.trans {b : Nat} {a c d : World} (h : But b a c) (k : But b c d) : But b a d :=
  ⟨k.os.trans h.os, k.tape.trans h.tape, k.output.trans h.output, Nat.le_trans h.size k.size, fun i hi hb => (k.block i (Nat.lt_of_lt_of_le hi h.size) hb).trans (h.block i hi hb)⟩
theorem But.of {b : Nat} {w w' : World} (h : Below w.heap.size w w') : But b w w' := ⟨h.os, h.tape, h.output, h.size, fun k hk _ => h.block k hk⟩
theorem But.below {b B : Nat} {w w' : World} (h : But b w w') (hB : B ≤ b) (hb : B ≤ w.heap.size) : Below B w w' :=
  ⟨h.os, h.tape, h.output, h.size, fun k hk => h.block k (Nat.lt_of_lt_of_le hk hb) (Nat.ne_of_lt (Nat.lt_of_lt_of_le hk hB))⟩
theorem But.cell {b : Nat} {w w' : World} {a : Addr} {v : Value} (h : But b w w') (ha : w.cell? a = some v) (hne : a.block ≠ b) : w'.cell? a = some v :=
  (World.cell?_of_block (w := w) (h.block a.block (World.block_lt_of_cell? w a ha) hne)).trans ha
theorem But.frozen {b : Nat} {w w' : World} {a : Addr} {v : Value} {f : Bool} (h : But b w w') (ha : w.cell? a = some v) (hf : w.frozen? a = f) (hne : a.block ≠ b) : w'.frozen? a = f :=
  (World.frozen?_of_block (w := w) (h.block a.block (World.block_lt_of_cell? w a ha) hne)).trans hf
theorem But.set (w : World) (b o : Nat) (v : Value) : But b w (w.setCell ⟨b, o, none⟩ v) := by
  have h := (Below.refl 0 w).setCell (p := ⟨b, o, none⟩) (Nat.zero_le _) v
  exact ⟨h.os, h.tape, h.output, h.size, fun k _ hk => Below.heap_setCell w ⟨b, o, none⟩ v k hk⟩

/-- A reader at a block: what is left, and what is wrong. -/
structure Rd (w : World) (b : Nat) (l : List UInt8) (f : Nat) : Prop where
  left : w.cell? ⟨b, 0, none⟩ = some (.string ⟨l.toArray⟩)
  bad : w.cell? ⟨b, 1, none⟩ = some (.int .i64 (f : Int))
  free0 : w.frozen? ⟨b, 0, none⟩ = false
  free1 : w.frozen? ⟨b, 1, none⟩ = false
theorem Rd.lt {w : World} {b : Nat} {l : List UInt8} {f : Nat} (h : Rd w b l f) : b < w.heap.size := World.block_lt_of_cell? w ⟨b, 0, none⟩ h.left
theorem Rd.below {w w' : World} {b : Nat} {l : List UInt8} {f B : Nat} (h : Rd w b l f) (hb : Below B w w') (hB : b < B) : Rd w' b l f :=
  ⟨(hb.cell (p := ⟨b, 0, none⟩) hB).trans h.left, (hb.cell (p := ⟨b, 1, none⟩) hB).trans h.bad, (hb.frozen (p := ⟨b, 0, none⟩) hB).trans h.free0, (hb.frozen (p := ⟨b, 1, none⟩) hB).trans h.free1⟩

theorem fault_rd {w : World} {b : Nat} {l : List UInt8} {f : Nat} (h : Rd w b l f) :
    Calls Try.prog 26 #[.pointer (some ⟨b, 0, none⟩)] w fun e w' => e = .returned (.int .i64 (f : Int)) ∧ w' = w := by
  obtain ⟨h0, h1, _, _⟩ := h
  go_enter Try.func26, Try.ntmps26
  go_wp2
  go_ret
  exact ⟨rfl, rfl⟩
theorem fault_nil (w : World) : Calls Try.prog 26 #[.pointer none] w fun e w' => e = .returned (.int .i64 1) ∧ w' = w := by
  go_enter Try.func26, Try.ntmps26
  go_wp2
  go_ret
  exact ⟨rfl, rfl⟩

theorem left_rd {w : World} {b : Nat} {l : List UInt8} {f : Nat} (h : Rd w b l f) :
    Calls Try.prog 27 #[.pointer (some ⟨b, 0, none⟩)] w fun e w' => e = .returned (.int .i64 ((if f = 0 then l.length else 0 : Nat) : Int)) ∧ w' = w := by
  obtain ⟨h0, h1, _, _⟩ := id h
  by_cases hf : f = 0
  · subst hf
    go_enter Try.func27, Try.ntmps27
    go_wp2_with fail
    refine (fault_rd h).mono ?_
    rintro e w' ⟨rfl, rfl⟩
    go_wp2
    go_ret
    exact ⟨rfl, rfl⟩
  · rw [if_neg hf]
    have hf' : ((f : Int) == 0) = false := beq_eq_false_iff_ne.2 (by omega)
    go_enter Try.func27, Try.ntmps27
    go_wp2_with fail
    refine (fault_rd h).mono ?_
    rintro e w' ⟨rfl, rfl⟩
    go_wp2
    go_ret
    exact ⟨rfl, rfl⟩

theorem Rd.setBad {w : World} {b : Nat} {l : List UInt8} {f : Nat} (h : Rd w b l f) (x : Nat) : Rd (w.setCell ⟨b, 1, none⟩ (.int .i64 (x : Int))) b l x ∧ But b w (w.setCell ⟨b, 1, none⟩ (.int .i64 (x : Int))) := by
  obtain ⟨h0, h1, h2, h3⟩ := h
  exact ⟨⟨(World.cell?_setCell_other _ _ _ _ (by simp)).trans h0, World.cell?_setCell_same _ _ _ h1, by simp [h2], by simp [h3]⟩, But.set w b _ _⟩
theorem Rd.setLeft {w : World} {b : Nat} {l : List UInt8} {f : Nat} (h : Rd w b l f) (m : List UInt8) : Rd (w.setCell ⟨b, 0, none⟩ (.string ⟨m.toArray⟩)) b m f ∧ But b w (w.setCell ⟨b, 0, none⟩ (.string ⟨m.toArray⟩)) := by
  obtain ⟨h0, h1, h2, h3⟩ := h
  exact ⟨⟨World.cell?_setCell_same _ _ _ h0, (World.cell?_setCell_other _ _ _ _ (by simp)).trans h1, by simp [h2], by simp [h3]⟩, But.set w b _ _⟩

theorem fail_rd {w : World} {b : Nat} {l : List UInt8} {f : Nat} (h : Rd w b l f) (x : Nat) :
    Calls Try.prog 62 #[.pointer (some ⟨b, 0, none⟩), .int .i64 (x : Int)] w fun e w' => e = .returned (.tuple #[]) ∧ Rd w' b l (if f = 0 then x else f) ∧ But b w w' := by
  have HR : Hid (Rd w b l f) := h
  obtain ⟨h0, h1, h2, h3⟩ := h
  by_cases hf : f = 0
  · subst hf
    rw [if_pos rfl]
    go_enter Try.func62, Try.ntmps62
    go_wp2_with fail
    refine (fault_rd HR.out).mono ?_
    rintro e w' ⟨rfl, rfl⟩
    go_wp2
    go_end0
    exact ⟨rfl, HR.out.setBad x⟩
  · rw [if_neg hf]
    have hf' : ((f : Int) == 0) = false := beq_eq_false_iff_ne.2 (by omega)
    go_enter Try.func62, Try.ntmps62
    go_wp2_with fail
    refine (fault_rd HR.out).mono ?_
    rintro e w' ⟨rfl, rfl⟩
    go_wp2
    go_end0
    exact ⟨rfl, HR.out, But.refl _ _⟩

/-- Behind a number: what is told, what is left, what is wrong. -/
def took (l : List UInt8) (n : Nat) (m : List UInt8) (x : Nat) : Nat × List UInt8 × Nat := if x = 0 then (n, m, 0) else (0, l, x)
theorem take_rd {w : World} {b : Nat} {l : List UInt8} (h : Rd w b l 0) (n : Nat) (m : List UInt8) (x : Nat) :
    Calls Try.prog 90 #[.pointer (some ⟨b, 0, none⟩), .int .i64 (n : Int), .string ⟨m.toArray⟩, .int .i64 (x : Int)] w
      fun e w' => e = .returned (.int .i64 ((took l n m x).1 : Nat)) ∧ Rd w' b (took l n m x).2.1 (took l n m x).2.2 ∧ But b w w' := by
  have HR : Hid (Rd w b l 0) := h
  obtain ⟨h0, h1, h2, h3⟩ := h
  by_cases hx : x = 0
  · subst hx
    rw [show took l n m 0 = (n, m, 0) from rfl]
    go_enter Try.func90, Try.ntmps90
    go_wp2
    go_ret
    exact ⟨rfl, HR.out.setLeft m⟩
  · rw [show took l n m x = (0, l, x) by unfold took; rw [if_neg hx]]
    have hx' : ((x : Int) == 0) = false := beq_eq_false_iff_ne.2 (by omega)
    go_enter Try.func90, Try.ntmps90
    go_wp2_with fail
    refine (fail_rd HR.out x).mono ?_
    rintro e w' ⟨rfl, hr, hb⟩
    go_wp2
    go_ret
    exact ⟨rfl, hr, hb⟩

theorem mk_size (l : List UInt8) : (⟨l.toArray⟩ : ByteArray).size = l.length := by simp [ByteArray.size]
theorem mk_data (l : List UInt8) : (⟨l.toArray⟩ : ByteArray).data.toList = l := by simp

/-- What 'Int' does to a reader. -/
def rdInt (l : List UInt8) (f : Nat) : Nat × List UInt8 × Nat := if f = 0 then took l (Pk.num l).1 (Pk.num l).2.1 (Pk.num l).2.2 else (0, l, f)
theorem int_rd {w : World} {b : Nat} {l : List UInt8} {f : Nat} (h : Rd w b l f) (hl : l.length ≤ maxLen) :
    Calls Try.prog 57 #[.pointer (some ⟨b, 0, none⟩)] w
      fun e w' => e = .returned (.int .i64 ((rdInt l f).1 : Nat)) ∧ Rd w' b (rdInt l f).2.1 (rdInt l f).2.2 ∧ But b w w' := by
  have HR : Hid (Rd w b l f) := h
  have hlt := h.lt
  obtain ⟨h0, h1, h2, h3⟩ := h
  by_cases hf : f = 0
  · subst hf
    rw [show rdInt l 0 = took l (Pk.num l).1 (Pk.num l).2.1 (Pk.num l).2.2 from rfl]
    go_enter Try.func57, Try.ntmps57
    go_wp2_with fail
    refine (fault_rd HR.out).mono ?_
    rintro e w' ⟨rfl, rfl⟩
    go_wp2_with fail
    refine (number_any _ _ (by rw [mk_size]; exact hl)).mono ?_
    rintro e w1 ⟨rfl, hb⟩
    rw [mk_data]
    unfold numV
    go_wp2_with fail
    refine (take_rd (HR.out.below hb hlt) _ _ _).mono ?_
    rintro e w2 ⟨rfl, hr, hb2⟩
    go_wp2
    go_ret
    exact ⟨rfl, hr, (But.of hb).trans hb2⟩
  · rw [show rdInt l f = (0, l, f) by unfold rdInt; rw [if_neg hf]]
    have hf' : ((f : Int) == 0) = false := beq_eq_false_iff_ne.2 (by omega)
    go_enter Try.func57, Try.ntmps57
    go_wp2_with fail
    refine (fault_rd HR.out).mono ?_
    rintro e w' ⟨rfl, rfl⟩
    go_wp2
    go_ret
    exact ⟨rfl, HR.out, But.refl _ _⟩

theorem num_len (l : List UInt8) : (Pk.num l).2.1.length ≤ l.length := by
  unfold Pk.num
  split
  · simp
  · split
    · simp
    · split
      · simp
      · simp
theorem rdInt_len (l : List UInt8) (f : Nat) : (rdInt l f).2.1.length ≤ l.length := by
  unfold rdInt took; split
  · split
    · exact num_len l
    · simp
  · simp
/-- What 'End' tells. -/
def rdEnd (l : List UInt8) (f : Nat) : Nat := if f = 0 then (if l.length = 0 then 0 else 3) else f
theorem end_rd {w : World} {b : Nat} {l : List UInt8} {f : Nat} (h : Rd w b l f) :
    Calls Try.prog 29 #[.pointer (some ⟨b, 0, none⟩)] w fun e w' => e = .returned (.int .i64 (rdEnd l f : Nat)) ∧ Rd w' b l (rdEnd l f) ∧ But b w w' := by
  by_cases hf : f = 0
  · subst hf
    by_cases hl : l.length = 0
    · rw [show rdEnd l 0 = 0 by unfold rdEnd; rw [if_pos rfl, if_pos hl]]
      go_enter Try.func29, Try.ntmps29
      go_wp2_with fail
      refine (left_rd h).mono ?_
      rintro e w' ⟨rfl, rfl⟩
      rw [if_pos rfl, hl]
      go_wp2_with fail
      refine (fault_rd h).mono ?_
      rintro e w' ⟨rfl, rfl⟩
      go_wp2
      go_ret
      exact ⟨rfl, h, But.refl _ _⟩
    · rw [show rdEnd l 0 = 3 by unfold rdEnd; rw [if_pos rfl, if_neg hl]]
      have hl' : 0 < (l.length : Int) := by omega
      go_enter Try.func29, Try.ntmps29
      go_wp2_with fail
      refine (left_rd h).mono ?_
      rintro e w' ⟨rfl, rfl⟩
      rw [if_pos rfl]
      go_wp2_with fail
      refine (fail_rd h 3).mono ?_
      rintro e w1 ⟨rfl, hr, hb⟩
      rw [if_pos rfl] at hr
      go_wp2_with fail
      refine (fault_rd hr).mono ?_
      rintro e w' ⟨rfl, rfl⟩
      go_wp2
      go_ret
      exact ⟨rfl, hr, hb⟩
  · rw [show rdEnd l f = f by unfold rdEnd; rw [if_neg hf]]
    go_enter Try.func29, Try.ntmps29
    go_wp2_with fail
    refine (left_rd h).mono ?_
    rintro e w' ⟨rfl, rfl⟩
    rw [if_neg hf]
    go_wp2_with fail
    refine (fault_rd h).mono ?_
    rintro e w' ⟨rfl, rfl⟩
    go_wp2
    go_ret
    exact ⟨rfl, h, But.refl _ _⟩

/-- A reader is begun. -/
theorem open_rd (s : ByteArray) (w : World) :
    Calls Try.prog 23 #[.string s] w fun e w' => ∃ b, e = .returned (.pointer (some ⟨b, 0, none⟩)) ∧ w.heap.size ≤ b ∧ Rd w' b s.data.toList 0 ∧ Below w.heap.size w w' := by
  go_enter Try.func23, Try.ntmps23
  go_wp2
  go_ret
  refine ⟨w.heap.size, rfl, Nat.le_refl _, ⟨by simp, by simp, by simp, by simp⟩, (Below.refl _ _).alloc (Nat.le_refl _) _⟩

theorem fail_nil (w : World) (x : Int) : Calls Try.prog 62 #[.pointer none, .int .i64 x] w fun e w' => e = .returned (.tuple #[]) ∧ w' = w := by
  go_enter Try.func62, Try.ntmps62
  go_wp2
  go_end0
  exact ⟨rfl, rfl⟩
theorem int_nil (w : World) : Calls Try.prog 57 #[.pointer none] w fun e w' => e = .returned (.int .i64 0) ∧ w' = w := by
  go_enter Try.func57, Try.ntmps57
  go_wp2
  go_ret
  exact ⟨rfl, rfl⟩
theorem left_nil (w : World) : Calls Try.prog 27 #[.pointer none] w fun e w' => e = .returned (.int .i64 0) ∧ w' = w := by
  go_enter Try.func27, Try.ntmps27
  go_wp2
  go_ret
  exact ⟨rfl, rfl⟩
theorem end_nil (w : World) : Calls Try.prog 29 #[.pointer none] w fun e w' => e = .returned (.int .i64 1) ∧ w' = w := by
  go_enter Try.func29, Try.ntmps29
  go_wp2
  go_ret
  exact ⟨rfl, rfl⟩
end Go.Proofs.Ytbbehccagdibcaa
