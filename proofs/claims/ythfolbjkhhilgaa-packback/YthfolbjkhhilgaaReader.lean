/- The walks of the reader's methods, over a reader that lies in memory of its own. -/
import Derived.Test.YthfolbjkhhilgaaNumber
import Derived.WalkKit
namespace Go.Proofs.Ythfolbjkhhilgaa
open Go.RowKit

/-- A reader at a block: what is left, and what is wrong. -/
structure Rd (w : World) (b : Nat) (l : List UInt8) (f : Nat) : Prop where
  left : w.cell? ⟨b, 0, none⟩ = some (.string ⟨l.toArray⟩)
  bad : w.cell? ⟨b, 1, none⟩ = some (.int .i64 (f : Int))
  free0 : w.frozen? ⟨b, 0, none⟩ = false
  free1 : w.frozen? ⟨b, 1, none⟩ = false
theorem Rd.lt {w : World} {b : Nat} {l : List UInt8} {f : Nat} (h : Rd w b l f) : b < w.heap.size := World.block_lt_of_cell? w ⟨b, 0, none⟩ h.left
theorem Rd.below {w w' : World} {b : Nat} {l : List UInt8} {f B : Nat} (h : Rd w b l f) (hb : Below B w w') (hB : b < B) : Rd w' b l f :=
  ⟨(hb.cell (p := ⟨b, 0, none⟩) hB).trans h.left, (hb.cell (p := ⟨b, 1, none⟩) hB).trans h.bad, (hb.frozen (p := ⟨b, 0, none⟩) hB).trans h.free0, (hb.frozen (p := ⟨b, 1, none⟩) hB).trans h.free1⟩

theorem fault_rd {w : World} {b : Nat} {l : List UInt8} {f : Nat} (h : Rd w b l f) :
    Calls Try.prog 14 #[.pointer (some ⟨b, 0, none⟩)] w fun e w' => e = .returned (.int .i64 (f : Int)) ∧ w' = w := by
  obtain ⟨h0, h1, _, _⟩ := h
  go_enter Try.func14, Try.ntmps14
  go_wp2
  go_ret
  exact ⟨rfl, rfl⟩
theorem fault_nil (w : World) : Calls Try.prog 14 #[.pointer none] w fun e w' => e = .returned (.int .i64 1) ∧ w' = w := by
  go_enter Try.func14, Try.ntmps14
  go_wp2
  go_ret
  exact ⟨rfl, rfl⟩

theorem left_rd {w : World} {b : Nat} {l : List UInt8} {f : Nat} (h : Rd w b l f) :
    Calls Try.prog 15 #[.pointer (some ⟨b, 0, none⟩)] w fun e w' => e = .returned (.int .i64 ((if f = 0 then l.length else 0 : Nat) : Int)) ∧ w' = w := by
  obtain ⟨h0, h1, _, _⟩ := id h
  by_cases hf : f = 0
  · subst hf
    go_enter Try.func15, Try.ntmps15
    go_wp2_with fail
    refine (fault_rd h).mono ?_
    rintro e w' ⟨rfl, rfl⟩
    go_wp2
    go_ret
    exact ⟨rfl, rfl⟩
  · rw [if_neg hf]
    have hf' : ((f : Int) == 0) = false := beq_eq_false_iff_ne.2 (by omega)
    go_enter Try.func15, Try.ntmps15
    go_wp2_with fail
    refine (fault_rd h).mono ?_
    rintro e w' ⟨rfl, rfl⟩
    go_wp2
    go_ret
    exact ⟨rfl, rfl⟩

theorem Rd.setBad {w : World} {b : Nat} {l : List UInt8} {f : Nat} (h : Rd w b l f) (x : Nat) : Rd (w.setCell ⟨b, 1, none⟩ (.int .i64 (x : Int))) b l x ∧ Below b w (w.setCell ⟨b, 1, none⟩ (.int .i64 (x : Int))) := by
  obtain ⟨h0, h1, h2, h3⟩ := h
  exact ⟨⟨(World.cell?_setCell_other _ _ _ _ (by simp)).trans h0, World.cell?_setCell_same _ _ _ h1, by simp [h2], by simp [h3]⟩, (Below.refl b w).setCell (Nat.le_refl b) _⟩
theorem Rd.setLeft {w : World} {b : Nat} {l : List UInt8} {f : Nat} (h : Rd w b l f) (m : List UInt8) : Rd (w.setCell ⟨b, 0, none⟩ (.string ⟨m.toArray⟩)) b m f ∧ Below b w (w.setCell ⟨b, 0, none⟩ (.string ⟨m.toArray⟩)) := by
  obtain ⟨h0, h1, h2, h3⟩ := h
  exact ⟨⟨World.cell?_setCell_same _ _ _ h0, (World.cell?_setCell_other _ _ _ _ (by simp)).trans h1, by simp [h2], by simp [h3]⟩, (Below.refl b w).setCell (Nat.le_refl b) _⟩

theorem fail_rd {w : World} {b : Nat} {l : List UInt8} {f : Nat} (h : Rd w b l f) (x : Nat) :
    Calls Try.prog 20 #[.pointer (some ⟨b, 0, none⟩), .int .i64 (x : Int)] w fun e w' => e = .returned (.tuple #[]) ∧ Rd w' b l (if f = 0 then x else f) ∧ Below b w w' := by
  have HR : Hid (Rd w b l f) := h
  obtain ⟨h0, h1, h2, h3⟩ := h
  by_cases hf : f = 0
  · subst hf
    rw [if_pos rfl]
    go_enter Try.func20, Try.ntmps20
    go_wp2_with fail
    refine (fault_rd HR.out).mono ?_
    rintro e w' ⟨rfl, rfl⟩
    go_wp2
    go_end0
    exact ⟨rfl, HR.out.setBad x⟩
  · rw [if_neg hf]
    have hf' : ((f : Int) == 0) = false := beq_eq_false_iff_ne.2 (by omega)
    go_enter Try.func20, Try.ntmps20
    go_wp2_with fail
    refine (fault_rd HR.out).mono ?_
    rintro e w' ⟨rfl, rfl⟩
    go_wp2
    go_end0
    exact ⟨rfl, HR.out, Below.refl _ _⟩

/-- Behind a number: what is told, what is left, what is wrong. -/
def took (l : List UInt8) (n : Nat) (m : List UInt8) (x : Nat) : Nat × List UInt8 × Nat := if x = 0 then (n, m, 0) else (0, l, x)
theorem take_rd {w : World} {b : Nat} {l : List UInt8} (h : Rd w b l 0) (n : Nat) (m : List UInt8) (x : Nat) :
    Calls Try.prog 27 #[.pointer (some ⟨b, 0, none⟩), .int .i64 (n : Int), .string ⟨m.toArray⟩, .int .i64 (x : Int)] w
      fun e w' => e = .returned (.int .i64 ((took l n m x).1 : Nat)) ∧ Rd w' b (took l n m x).2.1 (took l n m x).2.2 ∧ Below b w w' := by
  have HR : Hid (Rd w b l 0) := h
  obtain ⟨h0, h1, h2, h3⟩ := h
  by_cases hx : x = 0
  · subst hx
    rw [show took l n m 0 = (n, m, 0) from rfl]
    go_enter Try.func27, Try.ntmps27
    go_wp2
    go_ret
    exact ⟨rfl, HR.out.setLeft m⟩
  · rw [show took l n m x = (0, l, x) by unfold took; rw [if_neg hx]]
    have hx' : ((x : Int) == 0) = false := beq_eq_false_iff_ne.2 (by omega)
    go_enter Try.func27, Try.ntmps27
    go_wp2_with fail
    refine (fail_rd HR.out x).mono ?_
    rintro e w' ⟨rfl, hr, hb⟩
    go_wp2
    go_ret
    exact ⟨rfl, hr, hb⟩

theorem mk_size (l : List UInt8) : (⟨l.toArray⟩ : ByteArray).size = l.length := by simp [ByteArray.size]
theorem mk_data (l : List UInt8) : (⟨l.toArray⟩ : ByteArray).data.toList = l := by simp

/-- What 'Int' does to a reader. -/
def rdInt (l : List UInt8) (f : Nat) : Nat × List UInt8 × Nat := if f = 0 then took l (Pk.num l).1 (Pk.num l).2.1 (Pk.num l).2.2 else (0, l, f)
theorem int_rd {w : World} {b : Nat} {l : List UInt8} {f : Nat} (h : Rd w b l f) (hl : l.length ≤ maxLen) :
    Calls Try.prog 17 #[.pointer (some ⟨b, 0, none⟩)] w
      fun e w' => e = .returned (.int .i64 ((rdInt l f).1 : Nat)) ∧ Rd w' b (rdInt l f).2.1 (rdInt l f).2.2 ∧ Below b w w' := by
  have HR : Hid (Rd w b l f) := h
  have hlt := h.lt
  obtain ⟨h0, h1, h2, h3⟩ := h
  by_cases hf : f = 0
  · subst hf
    rw [show rdInt l 0 = took l (Pk.num l).1 (Pk.num l).2.1 (Pk.num l).2.2 from rfl]
    go_enter Try.func17, Try.ntmps17
    go_wp2_with fail
    refine (fault_rd HR.out).mono ?_
    rintro e w' ⟨rfl, rfl⟩
    go_wp2_with fail
    refine (number_any _ _ (by rw [mk_size]; exact hl)).mono ?_
    rintro e w1 ⟨rfl, hb⟩
    rw [mk_data]
    unfold numV
    go_wp2_with fail
    refine (take_rd (HR.out.below hb hlt) _ _ _).mono ?_
    rintro e w2 ⟨rfl, hr, hb2⟩
    go_wp2
    go_ret
    exact ⟨rfl, hr, (hb.mono (Nat.le_of_lt hlt)).trans hb2⟩
  · rw [show rdInt l f = (0, l, f) by unfold rdInt; rw [if_neg hf]]
    have hf' : ((f : Int) == 0) = false := beq_eq_false_iff_ne.2 (by omega)
    go_enter Try.func17, Try.ntmps17
    go_wp2_with fail
    refine (fault_rd HR.out).mono ?_
    rintro e w' ⟨rfl, rfl⟩
    go_wp2
    go_ret
    exact ⟨rfl, HR.out, Below.refl _ _⟩

/-- What is wrong with a number of parts. -/
def manyBad (l : List UInt8) (most : Int) : Nat := if (Pk.num l).2.2 ≠ 0 then (Pk.num l).2.2 else if most < (Pk.num l).1 then 6 else if (Pk.num l).2.1.length < (Pk.num l).1 then 4 else 0
def rdMany (l : List UInt8) (f : Nat) (most : Int) : Nat × List UInt8 × Nat := if f = 0 then took l (Pk.num l).1 (Pk.num l).2.1 (manyBad l most) else (0, l, f)
set_option maxRecDepth 20000 in
set_option maxHeartbeats 1000000 in
theorem many_rd {w : World} {b : Nat} {l : List UInt8} {f : Nat} (h : Rd w b l f) (hl : l.length ≤ maxLen) (most : Int) :
    Calls Try.prog 21 #[.pointer (some ⟨b, 0, none⟩), .int .i64 most] w
      fun e w' => e = .returned (.int .i64 ((rdMany l f most).1 : Nat)) ∧ Rd w' b (rdMany l f most).2.1 (rdMany l f most).2.2 ∧ Below b w w' := by
  have HR : Hid (Rd w b l f) := h
  have hlt := h.lt
  obtain ⟨h0, h1, h2, h3⟩ := h
  by_cases hf : f = 0
  · subst hf
    obtain ⟨n, m, x, hn⟩ : ∃ n m x, Pk.num l = (n, m, x) := ⟨_, _, _, rfl⟩
    by_cases hx : x = 0
    · subst hx
      by_cases hm : most < n
      · rw [show rdMany l 0 most = took l n m 6 by unfold rdMany manyBad; rw [if_pos rfl, hn]; simp only; rw [if_neg (by omega), if_pos hm]]
        have HN : Hid (Pk.num l = (n, m, 0)) := hn
        clear hn
        go_enter Try.func21, Try.ntmps21
        go_wp2_with fail
        refine (fault_rd HR.out).mono ?_
        rintro e w' ⟨rfl, rfl⟩
        go_wp2_with fail
        refine (number_any _ _ (by rw [mk_size]; exact hl)).mono ?_
        rintro e w1 ⟨rfl, hb⟩
        rw [mk_data]
        unfold numV
        rw [HN.out]
        go_wp2_with fail
        refine (take_rd (HR.out.below hb hlt) n m 6).mono ?_
        rintro e w2 ⟨rfl, hr, hb2⟩
        go_wp2
        go_ret
        exact ⟨rfl, hr, (hb.mono (Nat.le_of_lt hlt)).trans hb2⟩
      · by_cases hk : m.length < n
        · rw [show rdMany l 0 most = took l n m 4 by unfold rdMany manyBad; rw [if_pos rfl, hn]; simp only; rw [if_neg (by omega), if_neg hm, if_pos hk]]
          have HN : Hid (Pk.num l = (n, m, 0)) := hn
          clear hn
          go_enter Try.func21, Try.ntmps21
          go_wp2_with fail
          refine (fault_rd HR.out).mono ?_
          rintro e w' ⟨rfl, rfl⟩
          go_wp2_with fail
          refine (number_any _ _ (by rw [mk_size]; exact hl)).mono ?_
          rintro e w1 ⟨rfl, hb⟩
          rw [mk_data]
          unfold numV
          rw [HN.out]
          go_wp2_with fail
          refine (take_rd (HR.out.below hb hlt) n m 4).mono ?_
          rintro e w2 ⟨rfl, hr, hb2⟩
          go_wp2
          go_ret
          exact ⟨rfl, hr, (hb.mono (Nat.le_of_lt hlt)).trans hb2⟩
        · rw [show rdMany l 0 most = took l n m 0 by unfold rdMany manyBad; rw [if_pos rfl, hn]; simp only; rw [if_neg (by omega), if_neg hm, if_neg hk]]
          have HN : Hid (Pk.num l = (n, m, 0)) := hn
          clear hn
          go_enter Try.func21, Try.ntmps21
          go_wp2_with fail
          refine (fault_rd HR.out).mono ?_
          rintro e w' ⟨rfl, rfl⟩
          go_wp2_with fail
          refine (number_any _ _ (by rw [mk_size]; exact hl)).mono ?_
          rintro e w1 ⟨rfl, hb⟩
          rw [mk_data]
          unfold numV
          rw [HN.out]
          go_wp2_with fail
          refine (take_rd (HR.out.below hb hlt) n m 0).mono ?_
          rintro e w2 ⟨rfl, hr, hb2⟩
          go_wp2
          go_ret
          exact ⟨rfl, hr, (hb.mono (Nat.le_of_lt hlt)).trans hb2⟩
    · have hx' : ((x : Int) == 0) = false := beq_eq_false_iff_ne.2 (by omega)
      rw [show rdMany l 0 most = took l n m x by unfold rdMany manyBad; rw [if_pos rfl, hn]; simp only; rw [if_pos hx]]
      have HN : Hid (Pk.num l = (n, m, x)) := hn
      clear hn
      go_enter Try.func21, Try.ntmps21
      go_wp2_with fail
      refine (fault_rd HR.out).mono ?_
      rintro e w' ⟨rfl, rfl⟩
      go_wp2_with fail
      refine (number_any _ _ (by rw [mk_size]; exact hl)).mono ?_
      rintro e w1 ⟨rfl, hb⟩
      rw [mk_data]
      unfold numV
      rw [HN.out]
      go_wp2_with fail
      refine (take_rd (HR.out.below hb hlt) n m x).mono ?_
      rintro e w2 ⟨rfl, hr, hb2⟩
      go_wp2
      go_ret
      exact ⟨rfl, hr, (hb.mono (Nat.le_of_lt hlt)).trans hb2⟩
  · rw [show rdMany l f most = (0, l, f) by unfold rdMany; rw [if_neg hf]]
    have hf' : ((f : Int) == 0) = false := beq_eq_false_iff_ne.2 (by omega)
    go_enter Try.func21, Try.ntmps21
    go_wp2_with fail
    refine (fault_rd HR.out).mono ?_
    rintro e w' ⟨rfl, rfl⟩
    go_wp2
    go_ret
    exact ⟨rfl, HR.out, Below.refl _ _⟩

/-- What 'Text' does to a reader. -/
def rdText (l : List UInt8) (f : Nat) : List UInt8 × List UInt8 × Nat :=
  let r := rdMany l f 72057594037927936
  (r.2.1.take r.1, r.2.1.drop r.1, r.2.2)
theorem took_le {l m : List UInt8} {n x : Nat} (h : x = 0 → n ≤ m.length) : (took l n m x).1 ≤ (took l n m x).2.1.length := by
  unfold took; split
  · exact h (by assumption)
  · simp
theorem rdMany_le (l : List UInt8) (f : Nat) (most : Int) : (rdMany l f most).1 ≤ (rdMany l f most).2.1.length := by
  unfold rdMany; split
  · apply took_le
    intro h
    unfold manyBad at h
    split at h
    · rename_i h1; exact absurd h h1
    · split at h
      · cases h
      · split at h
        · cases h
        · omega
  · simp
theorem num_len (l : List UInt8) : (Pk.num l).2.1.length ≤ l.length := by
  unfold Pk.num
  split
  · simp
  · split
    · simp
    · split
      · simp
      · simp
theorem rdMany_len (l : List UInt8) (f : Nat) (most : Int) : (rdMany l f most).2.1.length ≤ l.length := by
  unfold rdMany took; split
  · split
    · exact num_len l
    · simp
  · simp
theorem rdInt_len (l : List UInt8) (f : Nat) : (rdInt l f).2.1.length ≤ l.length := by
  unfold rdInt took; split
  · split
    · exact num_len l
    · simp
  · simp
theorem rdText_len (l : List UInt8) (f : Nat) : (rdText l f).2.1.length ≤ l.length := by
  have := rdMany_len l f 72057594037927936
  simp only [rdText, List.length_drop]; omega
theorem cut_low (m : List UInt8) (n : Nat) : (⟨m.toArray⟩ : ByteArray).extract 0 n = ⟨(m.take n).toArray⟩ := by
  apply ByteArray.ext
  apply Array.toList_inj.1
  simp [ByteArray.data_extract]
theorem cut_high (m : List UInt8) (n : Nat) : (⟨m.toArray⟩ : ByteArray).extract n m.length = ⟨(m.drop n).toArray⟩ := by
  apply ByteArray.ext
  apply Array.toList_inj.1
  simp only [ByteArray.data_extract, Array.toList_extract, List.extract_eq_take_drop]
  exact List.take_of_length_le (by simp)

set_option maxRecDepth 20000 in
set_option maxHeartbeats 1000000 in
theorem text_rd {w : World} {b : Nat} {l : List UInt8} {f : Nat} (h : Rd w b l f) (hl : l.length ≤ maxLen) :
    Calls Try.prog 18 #[.pointer (some ⟨b, 0, none⟩)] w
      fun e w' => e = .returned (.string ⟨(rdText l f).1.toArray⟩) ∧ Rd w' b (rdText l f).2.1 (rdText l f).2.2 ∧ Below b w w' := by
  have hle := rdMany_le l f 72057594037927936
  have hln := rdMany_len l f 72057594037927936
  unfold rdText
  have hm := many_rd h hl 72057594037927936
  unfold maxLen at hl
  generalize rdMany l f 72057594037927936 = r at *
  obtain ⟨n, m, x⟩ := r
  simp only at hle hln ⊢
  clear h
  by_cases hn : n = 0
  · subst hn
    rw [List.take_zero, List.drop_zero]
    go_enter Try.func18, Try.ntmps18
    go_wp2_with fail
    refine hm.mono ?_
    rintro e w1 ⟨rfl, hr, hb⟩
    go_wp2
    go_ret
    exact ⟨rfl, hr, hb⟩
  · have hn' : ((n : Int) == 0) = false := beq_eq_false_iff_ne.2 (by omega)
    go_enter Try.func18, Try.ntmps18
    go_wp2_with fail
    refine hm.mono ?_
    rintro e w1 ⟨rfl, hr, hb⟩
    have HR : Hid (Rd w1 b m x) := hr
    obtain ⟨h0, h1, h2, h3⟩ := hr
    go_wp2
    go_ret
    rw [cut_high]
    have R := HR.out.setLeft (m.drop n)
    exact ⟨congrArg (fun z : ByteArray => Ending.returned (.string z)) (cut_low m n), R.1, hb.trans R.2⟩

/-- What 'End' tells. -/
def rdEnd (l : List UInt8) (f : Nat) : Nat := if f = 0 then (if l.length = 0 then 0 else 3) else f
theorem end_rd {w : World} {b : Nat} {l : List UInt8} {f : Nat} (h : Rd w b l f) :
    Calls Try.prog 19 #[.pointer (some ⟨b, 0, none⟩)] w fun e w' => e = .returned (.int .i64 (rdEnd l f : Nat)) ∧ Rd w' b l (rdEnd l f) ∧ Below b w w' := by
  by_cases hf : f = 0
  · subst hf
    by_cases hl : l.length = 0
    · rw [show rdEnd l 0 = 0 by unfold rdEnd; rw [if_pos rfl, if_pos hl]]
      go_enter Try.func19, Try.ntmps19
      go_wp2_with fail
      refine (left_rd h).mono ?_
      rintro e w' ⟨rfl, rfl⟩
      rw [if_pos rfl, hl]
      go_wp2_with fail
      refine (fault_rd h).mono ?_
      rintro e w' ⟨rfl, rfl⟩
      go_wp2
      go_ret
      exact ⟨rfl, h, Below.refl _ _⟩
    · rw [show rdEnd l 0 = 3 by unfold rdEnd; rw [if_pos rfl, if_neg hl]]
      have hl' : 0 < (l.length : Int) := by omega
      go_enter Try.func19, Try.ntmps19
      go_wp2_with fail
      refine (left_rd h).mono ?_
      rintro e w' ⟨rfl, rfl⟩
      rw [if_pos rfl]
      go_wp2_with fail
      refine (fail_rd h 3).mono ?_
      rintro e w1 ⟨rfl, hr, hb⟩
      rw [if_pos rfl] at hr
      go_wp2_with fail
      refine (fault_rd hr).mono ?_
      rintro e w' ⟨rfl, rfl⟩
      go_wp2
      go_ret
      exact ⟨rfl, hr, hb⟩
  · rw [show rdEnd l f = f by unfold rdEnd; rw [if_neg hf]]
    go_enter Try.func19, Try.ntmps19
    go_wp2_with fail
    refine (left_rd h).mono ?_
    rintro e w' ⟨rfl, rfl⟩
    rw [if_neg hf]
    go_wp2_with fail
    refine (fault_rd h).mono ?_
    rintro e w' ⟨rfl, rfl⟩
    go_wp2
    go_ret
    exact ⟨rfl, h, Below.refl _ _⟩

/-- A reader is begun. -/
theorem open_rd (s : ByteArray) (w : World) :
    Calls Try.prog 12 #[.string s] w fun e w' => ∃ b, e = .returned (.pointer (some ⟨b, 0, none⟩)) ∧ w.heap.size ≤ b ∧ Rd w' b s.data.toList 0 ∧ Below w.heap.size w w' := by
  go_enter Try.func12, Try.ntmps12
  go_wp2
  go_ret
  refine ⟨w.heap.size, rfl, Nat.le_refl _, ⟨by simp, by simp, by simp, by simp⟩, (Below.refl _ _).alloc (Nat.le_refl _) _⟩

theorem fail_nil (w : World) (x : Int) : Calls Try.prog 20 #[.pointer none, .int .i64 x] w fun e w' => e = .returned (.tuple #[]) ∧ w' = w := by
  go_enter Try.func20, Try.ntmps20
  go_wp2
  go_end0
  exact ⟨rfl, rfl⟩
theorem int_nil (w : World) : Calls Try.prog 17 #[.pointer none] w fun e w' => e = .returned (.int .i64 0) ∧ w' = w := by
  go_enter Try.func17, Try.ntmps17
  go_wp2
  go_ret
  exact ⟨rfl, rfl⟩
theorem left_nil (w : World) : Calls Try.prog 15 #[.pointer none] w fun e w' => e = .returned (.int .i64 0) ∧ w' = w := by
  go_enter Try.func15, Try.ntmps15
  go_wp2
  go_ret
  exact ⟨rfl, rfl⟩
theorem many_nil (w : World) (m : Int) : Calls Try.prog 21 #[.pointer none, .int .i64 m] w fun e w' => e = .returned (.int .i64 0) ∧ w' = w := by
  go_enter Try.func21, Try.ntmps21
  go_wp2
  go_ret
  exact ⟨rfl, rfl⟩
theorem text_nil (w : World) : Calls Try.prog 18 #[.pointer none] w fun e w' => e = .returned (.string ByteArray.empty) ∧ w' = w := by
  go_enter Try.func18, Try.ntmps18
  go_wp2_with fail
  refine (many_nil _ _).mono ?_
  rintro e w' ⟨rfl, rfl⟩
  go_wp2
  go_ret
  exact ⟨rfl, rfl⟩
theorem end_nil (w : World) : Calls Try.prog 19 #[.pointer none] w fun e w' => e = .returned (.int .i64 1) ∧ w' = w := by
  go_enter Try.func19, Try.ntmps19
  go_wp2
  go_ret
  exact ⟨rfl, rfl⟩
end Go.Proofs.Ythfolbjkhhilgaa
