/- The walks of both dot Codes, and of dot.Read over a reader whose text begins with a dot's bytes. -/
import Derived.Test.YtbbehccagdibcaaCompD
import Derived.Test.YtbbehccagdibcaaInts
namespace Go.Proofs.Ytbbehccagdibcaa.D
open Go.RowKit

/-- A dot's bytes. -/
def codeL (r n : Int) : List UInt8 := Pk.enc r.toNat ++ Pk.enc n.toNat
theorem enc_len {n : Int} (h1 : n ≤ 9223372036854775807) : (Pk.enc n.toNat).length ≤ 9 := Pk.enc_len9 (by omega)

set_option maxRecDepth 20000 in
theorem code_any (r n : Int) (w : World) (h0 : -9223372036854775808 ≤ r) (h1 : r ≤ 9223372036854775807) (h2 : -9223372036854775808 ≤ n) (h3 : n ≤ 9223372036854775807) :
    Calls Try.prog 87 #[dotV r n] w fun e w' => e = .returned (.string ⟨(codeL r n).toArray⟩) ∧ Below w.heap.size w w' := by
  have lr := enc_len h1
  have ln := enc_len h3
  have hs1 : ¬ 9223372036854775807 < (Pk.enc r.toNat).length + (Pk.enc n.toNat).length := by omega
  have HR : ∀ w, Calls Try.prog 45 #[.int .i64 r] w fun e w' => e = .returned (.string ⟨(Pk.enc r.toNat).toArray⟩) ∧ Below w.heap.size w w' := fun w => int_any r w h0 (by omega)
  have HN : ∀ w, Calls Try.prog 45 #[.int .i64 n] w fun e w' => e = .returned (.string ⟨(Pk.enc n.toNat).toArray⟩) ∧ Below w.heap.size w w' := fun w => int_any n w h2 (by omega)
  clear h0 h1 h2 h3
  go_enter Try.func87, Try.ntmps87
  go_wp2_with fail
  go_region_held3 (fun w' => w'.cell? ⟨w.heap.size, 0, none⟩ = some (.int .i64 r) ∧ w'.cell? ⟨w.heap.size, 1, none⟩ = some (.int .i64 n))
    (first | go_keep | (refine ⟨keep_cell hb ?_, keep_cell hb ?_⟩ <;> go_keep))
    (first | (go_at_call_of 45 r; refine (HR _).mono ?_; rintro e w1 ⟨rfl, hb⟩; have hb1 := hb) | (go_at_call_of 45 n; refine (HN _).mono ?_; rintro e w2 ⟨rfl, hb⟩; have hb2 := hb))
  all_goals
    go_wp2
    go_ret
    exact ⟨ret_str (by rw [cat_lists, codeL]), bchain (bchain (below_new _ _).drew hb1) hb2⟩

set_option maxRecDepth 20000 in
theorem refCode_any (r n : Int) (w : World) (h0 : -9223372036854775808 ≤ r) (h1 : r ≤ 9223372036854775807) (h2 : -9223372036854775808 ≤ n) (h3 : n ≤ 9223372036854775807) :
    Calls Try.prog 56 #[dotV r n] w fun e w' => e = .returned (.string ⟨(codeL r n).toArray⟩) ∧ Below w.heap.size w w' := by
  have lr := enc_len h1
  have ln := enc_len h3
  have hs1 : ¬ 9223372036854775807 < (Pk.enc r.toNat).length + (Pk.enc n.toNat).length := by omega
  have HR : ∀ w, Calls Try.prog 52 #[.int .i64 r] w fun e w' => e = .returned (.string ⟨(Pk.enc r.toNat).toArray⟩) ∧ Below w.heap.size w w' := fun w => refInt_any r w h0 (by omega)
  have HN : ∀ w, Calls Try.prog 52 #[.int .i64 n] w fun e w' => e = .returned (.string ⟨(Pk.enc n.toNat).toArray⟩) ∧ Below w.heap.size w w' := fun w => refInt_any n w h2 (by omega)
  clear h0 h1 h2 h3
  go_enter Try.func56, Try.ntmps56
  go_wp2_with fail
  go_region_held3 (fun w' => w'.cell? ⟨w.heap.size, 0, none⟩ = some (.int .i64 r) ∧ w'.cell? ⟨w.heap.size, 1, none⟩ = some (.int .i64 n))
    (first | go_keep | (refine ⟨keep_cell hb ?_, keep_cell hb ?_⟩ <;> go_keep))
    (first | (go_at_call_of 52 r; refine (HR _).mono ?_; rintro e w1 ⟨rfl, hb⟩; have hb1 := hb) | (go_at_call_of 52 n; refine (HN _).mono ?_; rintro e w2 ⟨rfl, hb⟩; have hb2 := hb))
  all_goals
    go_wp2
    go_ret
    exact ⟨ret_str (by rw [cat_lists, codeL]), bchain (bchain (below_new _ _).drew hb1) hb2⟩

set_option maxRecDepth 20000 in
set_option maxHeartbeats 1000000 in
/-- A right dot is read as it was told. -/
theorem dotRead_ok {w : World} {b : Nat} {r n : Int} {rest : List UInt8} (h : Rd w b (codeL r n ++ rest) 0) (hl : (codeL r n ++ rest).length ≤ maxLen) (hd : Dt.right r n = true) :
    Calls Try.prog 95 #[.pointer (some ⟨b, 0, none⟩)] w fun e w' => e = .returned (dotV r n) ∧ Rd w' b rest 0 ∧ But b w w' := by
  have hlt := h.lt
  obtain ⟨i1, i2, i3, i4⟩ := Dt.right_iff.1 hd
  obtain ⟨x, rfl⟩ : ∃ x : Nat, r = (x : Int) := ⟨r.toNat, by omega⟩
  obtain ⟨y, rfl⟩ : ∃ y : Nat, n = (y : Int) := ⟨n.toNat, by omega⟩
  simp only [codeL, Int.toNat_natCast, List.append_assoc] at h hl
  have HR : ∀ w, Calls Try.prog 37 #[dotV (x : Int) (y : Int)] w fun e w' => e = .returned (.bool true) ∧ Below w.heap.size w w' := fun w => by have := right_any x y w; rw [hd] at this; exact this
  have H0 : Rd (w.alloc (.cells #[.int .i64 0, .int .i64 0] 29)) b (Pk.enc x ++ (Pk.enc y ++ rest)) 0 := h.new _
  have H1 := int_ok H0 hl (by omega)
  have hlm : (Pk.enc y ++ rest).length ≤ maxLen := by rw [List.length_append] at hl; omega
  have hY : ∀ W, Rd W b (Pk.enc y ++ rest) 0 → Calls Try.prog 57 #[.pointer (some ⟨b, 0, none⟩)] W fun e w' => e = .returned (.int .i64 (y : Int)) ∧ Rd w' b rest 0 ∧ But b W w' := fun W hW => int_ok hW hlm (by omega)
  have z0 : (w.alloc (.cells #[.int .i64 0, .int .i64 0] 29)).cell? ⟨w.heap.size, 0, none⟩ = some (.int .i64 0) := by simp
  have z1 : (w.alloc (.cells #[.int .i64 0, .int .i64 0] 29)).cell? ⟨w.heap.size, 1, none⟩ = some (.int .i64 0) := by simp
  have y0 : (w.alloc (.cells #[.int .i64 0, .int .i64 0] 29)).frozen? ⟨w.heap.size, 0, none⟩ = false := by simp
  have y1 : (w.alloc (.cells #[.int .i64 0, .int .i64 0] 29)).frozen? ⟨w.heap.size, 1, none⟩ = false := by simp
  clear h hl hlm hd i1 i2 i3 i4
  generalize Pk.enc y ++ rest = l1 at *
  go_enter Try.func95, Try.ntmps95
  go_wp2_with fail
  refine H1.mono ?_
  rintro e w1 ⟨rfl, hr1, hb1⟩
  have hlt1 := hr1.lt
  have hR1 := hr1.below (below_new w1 (.cells #[.int .i64 (x : Int), .int .i64 0] 29)) hlt1
  have d0 : (w1.alloc (.cells #[.int .i64 (x : Int), .int .i64 0] 29)).cell? ⟨w1.heap.size, 0, none⟩ = some (.int .i64 (x : Int)) := by simp
  have d1 : (w1.alloc (.cells #[.int .i64 (x : Int), .int .i64 0] 29)).cell? ⟨w1.heap.size, 1, none⟩ = some (.int .i64 0) := by simp
  have g1 : (w1.alloc (.cells #[.int .i64 (x : Int), .int .i64 0] 29)).frozen? ⟨w1.heap.size, 1, none⟩ = false := by simp
  go_wp2_with fail
  refine (hY _ hR1).mono ?_
  rintro e w2 ⟨rfl, hr2, hb2⟩
  have hne : w1.heap.size ≠ b := by omega
  have d0' := hb2.cell d0 hne
  have d1' := hb2.cell d1 hne
  have g1' := hb2.frozen d1 g1 hne
  have W0 : (w2.setCell ⟨w1.heap.size, 1, none⟩ (.int .i64 (y : Int))).cell? ⟨w1.heap.size, 0, none⟩ = some (.int .i64 (x : Int)) := (World.cell?_setCell_other _ _ _ _ (by simp)).trans d0'
  have W1 : (w2.setCell ⟨w1.heap.size, 1, none⟩ (.int .i64 (y : Int))).cell? ⟨w1.heap.size, 1, none⟩ = some (.int .i64 (y : Int)) := World.cell?_setCell_same _ _ _ d1'
  have hRW := hr2.setOther (p := ⟨w1.heap.size, 1, none⟩) hne (.int .i64 (y : Int))
  have hltW := hRW.lt
  have hsz := hb1.size
  have HB := ((hb1.trans (But.of (below_new w1 (.cells #[.int .i64 (x : Int), .int .i64 0] 29)))).trans hb2).setNew (p := ⟨w1.heap.size, 1, none⟩) hb1.size (.int .i64 (y : Int))
  go_wp2_with fail
  refine (HR _).mono ?_
  rintro e w3 ⟨rfl, hb3⟩
  have hr3 := hRW.below hb3 hltW
  have HB3 := HB.trans (But.of hb3)
  have e0 := keep_cell hb3 W0
  have e1 := keep_cell hb3 W1
  have hne' : w.heap.size ≠ b := by omega
  have z0' := HB3.cell z0 hne'
  have z1' := HB3.cell z1 hne'
  have y0' := HB3.frozen z0 y0 hne'
  have y1' := HB3.frozen z1 y1 hne'
  go_wp2
  have e01 := stored2 z0' z1' (.int .i64 (x : Int)) (.int .i64 (y : Int))
  refine bodyPost_ret (v := dotV x y) (by simp [results, Try.results95, go_sem, e01.1, e01.2]) rfl ⟨rfl, (hr3.setOther hne' _).setOther hne' _, ?_⟩
  exact ((((But.of (below_new w _)).trans HB3).setNew (Nat.le_refl _) _).setNew (Nat.le_refl _) _)

end Go.Proofs.Ytbbehccagdibcaa.D
