/- The walk of DotBack's function. -/
import Derived.Test.YtifmmfceihhhlaaDoorLaws
namespace Go.Proofs.YtifmmfceihhhlaaDoor
open Go.RowKit

theorem rdInt_enc {n : Nat} (hn : n < 72057594037927936) (rest : List UInt8) : rdInt (Pk.enc n ++ rest) 0 = (n, rest, 0) := by
  unfold rdInt took
  rw [if_pos rfl, Pk.num_enc hn]
  rfl
theorem rdDot_code {r n : Nat} (h : Dt.right r n = true) : rdDot (codeL r n) 0 = ((r, n), [], 0) := by
  have hq := Dt.right_iff.1 h
  have e1 : rdInt (codeL r n) 0 = (r, Pk.enc n, 0) := by unfold codeL; exact rdInt_enc (by omega) _
  have e2 : rdInt (Pk.enc n) 0 = (n, [], 0) := by have := rdInt_enc (n := n) (by omega) []; rwa [List.append_nil] at this
  unfold rdDot
  simp only [e1, e2]
  rw [if_pos h]

set_option maxRecDepth 20000 in
set_option maxHeartbeats 1000000 in
theorem dotBack_walk (r n : Int) (w : World) (hk : Keeps w) (h0 : -9223372036854775808 ≤ r) (h1 : r ≤ 9223372036854775807) (h2 : -9223372036854775808 ≤ n) (h3 : n ≤ 9223372036854775807) :
    Calls Tryd.prog 6 #[dotV r n] w fun e w' => e = .returned (.bool true) ∧ Below w.heap.size w w' := by
  by_cases hq : Dt.right r n = true
  · have hq1 := Dt.right_iff.1 hq
    obtain ⟨R, rfl⟩ := Int.eq_ofNat_of_zero_le hq1.1
    obtain ⟨N, rfl⟩ := Int.eq_ofNat_of_zero_le (show 0 ≤ n by omega)
    clear hq1
    have HR : ∀ w, Calls Tryd.prog 8 #[dotV (R : Int) (N : Int)] w fun e w' => e = .returned (.bool true) ∧ Below w.heap.size w w' := fun w => by have := right_any R N w; rw [hq] at this; exact this
    have c0 : (w.alloc (.cells #[.int .i64 (R : Int), .int .i64 (N : Int)] 23)).cell? ⟨w.heap.size, 0, none⟩ = some (.int .i64 (R : Int)) := by simp
    have c1 : (w.alloc (.cells #[.int .i64 (R : Int), .int .i64 (N : Int)] 23)).cell? ⟨w.heap.size, 1, none⟩ = some (.int .i64 (N : Int)) := by simp
    go_enter Tryd.func6, Tryd.ntmps6
    go_wp2_with fail
    refine (HR _).mono ?_
    rintro e w1 ⟨rfl, hb1⟩
    have a0 := keep_cell hb1 c0
    have a1 := keep_cell hb1 c1
    have B1 := bchain (below_new w (.cells #[.int .i64 (R : Int), .int .i64 (N : Int)] 23)) hb1
    go_wp2_with fail
    refine (text_any R N _ (hk.on B1) h0 h1 h2 h3).mono ?_
    rintro e w2 ⟨rfl, hb2⟩
    have B2 := bchain B1 hb2
    have b0 := keep_cell hb2 a0
    have b1 := keep_cell hb2 a1
    have hl := Dt.text_len (R : Int) (N : Int) h0 h1 h2 h3
    go_wp2_with fail
    refine (parse_ok ⟨(Dt.text (R : Int) (N : Int)).toArray⟩ R N _ (hk.on B2) (by rw [mk_size]; omega) ⟨hq, by rw [mk_data]⟩).mono ?_
    rintro e w3 ⟨rfl, hb3⟩
    have B3 := bchain B2 hb3
    have p0 := keep_cell (below_new w3 (.cells #[.int .i64 (R : Int), .int .i64 (N : Int)] 23)) (keep_cell hb3 b0)
    have p1 := keep_cell (below_new w3 (.cells #[.int .i64 (R : Int), .int .i64 (N : Int)] 23)) (keep_cell hb3 b1)
    have x0 : (w3.alloc (.cells #[.int .i64 (R : Int), .int .i64 (N : Int)] 23)).cell? ⟨w3.heap.size, 0, none⟩ = some (.int .i64 (R : Int)) := by simp
    have x1 : (w3.alloc (.cells #[.int .i64 (R : Int), .int .i64 (N : Int)] 23)).cell? ⟨w3.heap.size, 1, none⟩ = some (.int .i64 (N : Int)) := by simp
    have B3' := bchain B3 (below_new w3 (.cells #[.int .i64 (R : Int), .int .i64 (N : Int)] 23))
    clear a0 a1 b0 b1
    go_wp2_with fail
    refine (code_any R N _ h0 h1 h2 h3).mono ?_
    rintro e w4 ⟨rfl, hb4⟩
    have p0' := keep_cell hb4 p0
    have p1' := keep_cell hb4 p1
    have x0' := keep_cell hb4 x0
    have x1' := keep_cell hb4 x1
    have B4 := bchain B3' hb4
    clear p0 p1 x0 x1
    go_wp2_with fail
    refine (open_rd _ _).mono ?_
    rintro e w5 ⟨b, rfl, hge, hr5, hb5⟩
    rw [mk_data] at hr5
    have HRD := read_rd hr5 (by unfold maxLen; have := enc_len h1; have := enc_len h3; simp only [codeL, List.length_append]; omega)
    rw [rdDot_code hq] at HRD
    have hsz4 := B4.size
    have hlt5 := hr5.lt
    have p0 := keep_cell hb5 p0'
    have p1 := keep_cell hb5 p1'
    have x0 := keep_cell hb5 x0'
    have x1 := keep_cell hb5 x1'
    have hx := World.block_lt_of_cell? w4 ⟨w3.heap.size, 0, none⟩ x0'
    have hp := World.block_lt_of_cell? w4 ⟨w.heap.size, 0, none⟩ p0'
    simp only at hx hp
    have B5 := bchain B4 hb5
    clear p0' p1' x0' x1'
    go_wp2_with fail
    refine HRD.mono ?_
    rintro e w6 ⟨rfl, hr6, hb6⟩
    have hlt6 := hr6.lt
    have B6 := B5.trans (hb6.below (B := w.heap.size) (by omega) B5.size)
    have p0 := keep_cell (below_new w6 (.cells #[.int .i64 (R : Int), .int .i64 (N : Int)] 23)) (hb6.cell p0 (by simp only; omega))
    have p1 := keep_cell (below_new w6 (.cells #[.int .i64 (R : Int), .int .i64 (N : Int)] 23)) (hb6.cell p1 (by simp only; omega))
    have x0 := keep_cell (below_new w6 (.cells #[.int .i64 (R : Int), .int .i64 (N : Int)] 23)) (hb6.cell x0 (by simp only; omega))
    have x1 := keep_cell (below_new w6 (.cells #[.int .i64 (R : Int), .int .i64 (N : Int)] 23)) (hb6.cell x1 (by simp only; omega))
    have v0 : (w6.alloc (.cells #[.int .i64 (R : Int), .int .i64 (N : Int)] 23)).cell? ⟨w6.heap.size, 0, none⟩ = some (.int .i64 (R : Int)) := by simp
    have v1 : (w6.alloc (.cells #[.int .i64 (R : Int), .int .i64 (N : Int)] 23)).cell? ⟨w6.heap.size, 1, none⟩ = some (.int .i64 (N : Int)) := by simp
    have B6' := bchain B6 (below_new w6 (.cells #[.int .i64 (R : Int), .int .i64 (N : Int)] 23))
    have HE := end_rd (hr6.below (below_new w6 (.cells #[.int .i64 (R : Int), .int .i64 (N : Int)] 23)) hlt6)
    rw [show rdEnd [] 0 = 0 from rfl] at HE
    go_wp2_with fail
    refine HE.mono ?_
    rintro e w7 ⟨rfl, hr7, hb7⟩
    have B7 := B6'.trans (hb7.below (B := w.heap.size) (by omega) B6'.size)
    go_wp2_with (go_at_call 18; refine (awake_any _ (hk.on B7)).mono ?_; rintro e w8 ⟨rfl, hb8⟩)
    go_ret
    exact ⟨rfl, bchain B7 hb8⟩
  · have hq' : Dt.right r n = false := by simpa using hq
    have HR : ∀ w, Calls Tryd.prog 8 #[dotV r n] w fun e w' => e = .returned (.bool false) ∧ Below w.heap.size w w' := fun w => by have := right_any r n w; rw [hq'] at this; exact this
    clear hq hq'
    go_enter Tryd.func6, Tryd.ntmps6
    go_wp2_with fail
    refine (HR _).mono ?_
    rintro e w1 ⟨rfl, hb1⟩
    have B1 := bchain (below_new w (.cells #[.int .i64 r, .int .i64 n] 23)) hb1
    go_wp2_with (go_at_call 18; refine (awake_any _ (hk.on B1)).mono ?_; rintro e w8 ⟨rfl, hb8⟩)
    go_ret
    exact ⟨rfl, bchain B1 hb8⟩
end Go.Proofs.YtifmmfceihhhlaaDoor
