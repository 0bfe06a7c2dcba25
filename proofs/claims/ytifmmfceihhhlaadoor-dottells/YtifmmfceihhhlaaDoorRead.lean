/- The walks of the program's Read, and of chapter 4's example. -/
import Derived.Test.YtifmmfceihhhlaaDoorParse
import Derived.Test.YtifmmfceihhhlaaDoorReader
namespace Go.Proofs.YtifmmfceihhhlaaDoor
open Go.RowKit

theorem But.setNew {b : Nat} {A W : World} (h : But b A W) {p : Addr} (hp : A.heap.size ≤ p.block) (v : Value) : But b A (W.setCell p v) := by
  have k := (Below.refl 0 W).setCell (p := p) (Nat.zero_le _) v
  exact ⟨k.os.trans h.os, k.tape.trans h.tape, k.output.trans h.output, Nat.le_trans h.size k.size, fun i hi hb => (Below.heap_setCell W p v i (Nat.ne_of_lt (Nat.lt_of_lt_of_le hi hp))).trans (h.block i hi hb)⟩
theorem Rd.setOther {w : World} {b : Nat} {l : List UInt8} {f : Nat} (h : Rd w b l f) {p : Addr} (hp : p.block ≠ b) (v : Value) : Rd (w.setCell p v) b l f := by
  obtain ⟨h0, h1, h2, h3⟩ := h
  exact ⟨(World.cell?_setCell_far _ _ _ _ hp).trans h0, (World.cell?_setCell_far _ _ _ _ hp).trans h1, by simp [h2], by simp [h3]⟩

/-- What 'Read' does to a reader: what is told, what is left, what is wrong. -/
def rdDot (l : List UInt8) (f : Nat) : (Nat × Nat) × List UInt8 × Nat :=
  let x := rdInt l f
  let y := rdInt x.2.1 x.2.2
  if Dt.right x.1 y.1 = true then ((x.1, y.1), y.2.1, y.2.2) else ((0, 0), y.2.1, if y.2.2 = 0 then 2 else y.2.2)

set_option maxRecDepth 20000 in
theorem read_rd {w : World} {b : Nat} {l : List UInt8} {f : Nat} (h : Rd w b l f) (hl : l.length ≤ maxLen) :
    Calls Tryd.prog 22 #[.pointer (some ⟨b, 0, none⟩)] w
      fun e w' => e = .returned (dotV ((rdDot l f).1.1 : Nat) ((rdDot l f).1.2 : Nat)) ∧ Rd w' b (rdDot l f).2.1 (rdDot l f).2.2 ∧ But b w w' := by
  have hlt := h.lt
  have H0 : Rd (w.alloc (.cells #[.int .i64 0, .int .i64 0] 23)) b l f := h.below (below_new _ _) hlt
  have H1 := int_rd H0 hl
  have hl1 := rdInt_len l f
  unfold rdDot
  simp only
  generalize rdInt l f = X at *
  obtain ⟨x, l1, f1⟩ := X
  simp only at *
  have hlm : l1.length ≤ maxLen := Nat.le_trans hl1 hl
  generalize hY : rdInt l1 f1 = Y
  obtain ⟨y, l2, f2⟩ := Y
  simp only
  have z0 : (w.alloc (.cells #[.int .i64 0, .int .i64 0] 23)).cell? ⟨w.heap.size, 0, none⟩ = some (.int .i64 0) := by simp
  have z1 : (w.alloc (.cells #[.int .i64 0, .int .i64 0] 23)).cell? ⟨w.heap.size, 1, none⟩ = some (.int .i64 0) := by simp
  have y0 : (w.alloc (.cells #[.int .i64 0, .int .i64 0] 23)).frozen? ⟨w.heap.size, 0, none⟩ = false := by simp
  have y1 : (w.alloc (.cells #[.int .i64 0, .int .i64 0] 23)).frozen? ⟨w.heap.size, 1, none⟩ = false := by simp
  have hY' : ∀ W, Rd W b l1 f1 → Calls Tryd.prog 37 #[.pointer (some ⟨b, 0, none⟩)] W fun e w' => e = .returned (.int .i64 (y : Int)) ∧ Rd w' b l2 f2 ∧ But b W w' := fun W hW => by have := int_rd hW hlm; rw [hY] at this; exact this
  clear h hY
  by_cases hq : Dt.right x y = true
  · rw [if_pos hq]
    simp only
    have HR : ∀ w, Calls Tryd.prog 8 #[dotV (x : Int) (y : Int)] w fun e w' => e = .returned (.bool true) ∧ Below w.heap.size w w' := fun w => by have := right_any x y w; rw [hq] at this; exact this
    clear hq
    go_enter Tryd.func22, Tryd.ntmps22
    go_wp2_with fail
    refine H1.mono ?_
    rintro e w1 ⟨rfl, hr1, hb1⟩
    have hlt1 := hr1.lt
    have hR1 := hr1.below (below_new w1 (.cells #[.int .i64 (x : Int), .int .i64 0] 23)) hlt1
    have d0 : (w1.alloc (.cells #[.int .i64 (x : Int), .int .i64 0] 23)).cell? ⟨w1.heap.size, 0, none⟩ = some (.int .i64 (x : Int)) := by simp
    have d1 : (w1.alloc (.cells #[.int .i64 (x : Int), .int .i64 0] 23)).cell? ⟨w1.heap.size, 1, none⟩ = some (.int .i64 0) := by simp
    have g1 : (w1.alloc (.cells #[.int .i64 (x : Int), .int .i64 0] 23)).frozen? ⟨w1.heap.size, 1, none⟩ = false := by simp
    go_wp2_with fail
    refine (hY' _ hR1).mono ?_
    rintro e w2 ⟨rfl, hr2, hb2⟩
    have hne : w1.heap.size ≠ b := by omega
    have d0' := hb2.cell d0 hne
    have d1' := hb2.cell d1 hne
    have g1' := hb2.frozen d1 g1 hne
    have W0 : (w2.setCell ⟨w1.heap.size, 1, none⟩ (.int .i64 (y : Int))).cell? ⟨w1.heap.size, 0, none⟩ = some (.int .i64 (x : Int)) := (World.cell?_setCell_other _ _ _ _ (by simp)).trans d0'
    have W1 : (w2.setCell ⟨w1.heap.size, 1, none⟩ (.int .i64 (y : Int))).cell? ⟨w1.heap.size, 1, none⟩ = some (.int .i64 (y : Int)) := World.cell?_setCell_same _ _ _ d1'
    have hRW := hr2.setOther (p := ⟨w1.heap.size, 1, none⟩) hne (.int .i64 (y : Int))
    have hltW := hRW.lt
    have hsz := hb1.size
    have HB := ((hb1.trans (But.of (below_new w1 (.cells #[.int .i64 (x : Int), .int .i64 0] 23)))).trans hb2).setNew (p := ⟨w1.heap.size, 1, none⟩) hb1.size (.int .i64 (y : Int))
    go_wp2_with fail
    refine (HR _).mono ?_
    rintro e w3 ⟨rfl, hb3⟩
    have hr3 := hRW.below hb3 hltW
    have HB3 := HB.trans (But.of hb3)
    have e0 := keep_cell hb3 W0
    have e1 := keep_cell hb3 W1
    have hne' : w.heap.size ≠ b := by omega
    have z0' := HB3.cell z0 hne'
    have z1' := HB3.cell z1 hne'
    have y0' := HB3.frozen z0 y0 hne'
    have y1' := HB3.frozen z1 y1 hne'
    go_wp2
    have e01 := stored2 z0' z1' (.int .i64 (x : Int)) (.int .i64 (y : Int))
    refine bodyPost_ret (v := dotV x y) (by simp [results, Tryd.results22, go_sem, e01.1, e01.2]) rfl ⟨rfl, (hr3.setOther hne' _).setOther hne' _, ?_⟩
    exact ((((But.of (below_new w _)).trans HB3).setNew (Nat.le_refl _) _).setNew (Nat.le_refl _) _)
  · rw [if_neg hq]
    simp only
    have hq' : Dt.right x y = false := by simpa using hq
    have HR : ∀ w, Calls Tryd.prog 8 #[dotV (x : Int) (y : Int)] w fun e w' => e = .returned (.bool false) ∧ Below w.heap.size w w' := fun w => by have := right_any x y w; rw [hq'] at this; exact this
    clear hq hq'
    generalize hg : (if f2 = 0 then 2 else f2) = g
    have HG : Hid ((if f2 = 0 then 2 else f2) = g) := hg
    clear hg
    go_enter Tryd.func22, Tryd.ntmps22
    go_wp2_with fail
    refine H1.mono ?_
    rintro e w1 ⟨rfl, hr1, hb1⟩
    have hlt1 := hr1.lt
    have hR1 := hr1.below (below_new w1 (.cells #[.int .i64 (x : Int), .int .i64 0] 23)) hlt1
    have d0 : (w1.alloc (.cells #[.int .i64 (x : Int), .int .i64 0] 23)).cell? ⟨w1.heap.size, 0, none⟩ = some (.int .i64 (x : Int)) := by simp
    have d1 : (w1.alloc (.cells #[.int .i64 (x : Int), .int .i64 0] 23)).cell? ⟨w1.heap.size, 1, none⟩ = some (.int .i64 0) := by simp
    have g1 : (w1.alloc (.cells #[.int .i64 (x : Int), .int .i64 0] 23)).frozen? ⟨w1.heap.size, 1, none⟩ = false := by simp
    go_wp2_with fail
    refine (hY' _ hR1).mono ?_
    rintro e w2 ⟨rfl, hr2, hb2⟩
    have hne : w1.heap.size ≠ b := by omega
    have d0' := hb2.cell d0 hne
    have d1' := hb2.cell d1 hne
    have g1' := hb2.frozen d1 g1 hne
    have W0 : (w2.setCell ⟨w1.heap.size, 1, none⟩ (.int .i64 (y : Int))).cell? ⟨w1.heap.size, 0, none⟩ = some (.int .i64 (x : Int)) := (World.cell?_setCell_other _ _ _ _ (by simp)).trans d0'
    have W1 : (w2.setCell ⟨w1.heap.size, 1, none⟩ (.int .i64 (y : Int))).cell? ⟨w1.heap.size, 1, none⟩ = some (.int .i64 (y : Int)) := World.cell?_setCell_same _ _ _ d1'
    have hRW := hr2.setOther (p := ⟨w1.heap.size, 1, none⟩) hne (.int .i64 (y : Int))
    have hltW := hRW.lt
    have hsz := hb1.size
    have HB := ((hb1.trans (But.of (below_new w1 (.cells #[.int .i64 (x : Int), .int .i64 0] 23)))).trans hb2).setNew (p := ⟨w1.heap.size, 1, none⟩) hb1.size (.int .i64 (y : Int))
    go_wp2_with fail
    refine (HR _).mono ?_
    rintro e w3 ⟨rfl, hb3⟩
    have hr3 := hRW.below hb3 hltW
    have HB3 := HB.trans (But.of hb3)
    go_wp2_with fail
    refine (fail_rd hr3 2).mono ?_
    rintro e w4 ⟨rfl, hr4, hb4⟩
    rw [HG.out] at hr4
    have HB4 := HB3.trans hb4
    have hne' : w.heap.size ≠ b := by omega
    have z0' := HB4.cell z0 hne'
    have z1' := HB4.cell z1 hne'
    have y0' := HB4.frozen z0 y0 hne'
    have y1' := HB4.frozen z1 y1 hne'
    go_wp2
    have e01 := stored2 z0' z1' (.int .i64 0) (.int .i64 0)
    refine bodyPost_ret (v := dotV 0 0) (by simp [results, Tryd.results22, go_sem, e01.1, e01.2]) rfl ⟨rfl, (hr4.setOther hne' _).setOther hne' _, ?_⟩
    exact ((((But.of (below_new w _)).trans HB4).setNew (Nat.le_refl _) _).setNew (Nat.le_refl _) _)

theorem isDot_317 : Dt.isDot [51, 46, 49, 55] 3 17 := by
  refine ⟨rfl, ?_⟩
  have e := Dt.text_nat 3 17
  rw [Lib.decDigits_one (by omega), Lib.decDigits_two (by omega) (by omega)] at e
  exact e

set_option maxRecDepth 20000 in
/-- Chapter 4's example. -/
theorem awake_any (w : World) (hk : Keeps w) : Calls Tryd.prog 18 #[] w fun e w' => e = .returned (.bool true) ∧ Below w.heap.size w w' := by
  have HP : ∀ w, Keeps w → Calls Tryd.prog 19 #[.string ⟨#[51, 46, 49, 55]⟩] w fun e w' => e = .returned (.tuple #[dotV 3 17, .int .i64 0]) ∧ Below w.heap.size w w' := fun w hk => parse_ok _ 3 17 w hk (by decide) isDot_317
  have HR : ∀ w, Calls Tryd.prog 8 #[dotV 3 17] w fun e w' => e = .returned (.bool true) ∧ Below w.heap.size w w' := fun w => right_any 3 17 w
  have HC : ∀ w, Calls Tryd.prog 14 #[dotV 3 17, dotV 4 1] w fun e w' => e = .returned (.int .i64 (-1)) ∧ Below w.heap.size w w' := fun w => comp_any 3 17 4 1 w
  go_enter Tryd.func18, Tryd.ntmps18
  go_wp2_with fail
  refine (HP _ hk).mono ?_
  rintro e w1 ⟨rfl, hb1⟩
  have c0 : (w1.alloc (.cells #[.int .i64 3, .int .i64 17] 23)).cell? ⟨w1.heap.size, 0, none⟩ = some (.int .i64 3) := by simp
  have c1 : (w1.alloc (.cells #[.int .i64 3, .int .i64 17] 23)).cell? ⟨w1.heap.size, 1, none⟩ = some (.int .i64 17) := by simp
  go_wp2_with fail
  refine (HR _).mono ?_
  rintro e w2 ⟨rfl, hb2⟩
  have d0 := keep_cell hb2 c0
  have d1 := keep_cell hb2 c1
  go_wp2_with fail
  refine (HC _).mono ?_
  rintro e w3 ⟨rfl, hb3⟩
  go_wp2
  go_ret
  exact ⟨rfl, bchain (bchain (bchain hb1 (below_new _ _)) hb2) hb3⟩
end Go.Proofs.YtifmmfceihhhlaaDoor
