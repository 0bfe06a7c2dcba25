/- The walks of the program's Compare and of the document's · The walks of cmp.Compare of texts, of slices.Compare, Compare and the document's Compare. -/
import Derived.Test.YthlhopdlkkeohaaGreatDoorOpsAll
import Derived.Deep.RegionHeld3
import Derived.Test.YthlhopdlkkeohaaGreatDoorPlainAll
import Derived.Lib.Small
import Derived.Test.YthlhopdlkkeohaaGreatDoorThinsAll
import Derived.WalkLawsBesides
/- The walks of the program's Compare and of the document's. -/
namespace Go.Proofs.YthlhopdlkkeohaaGreatDoor.U
open Go.RowKit

theorem wrap_i64 {e : Int} (h : -9223372036854775808 ≤ e) (h' : e < 9223372036854775808) : IntKind.i64.wrap e = e := by
  simp [IntKind.wrap, IntKind.signed, IntKind.bits]; try split
  all_goals omega
/-! ### The document's -/
theorem ints_any (x y : Int) (w : World) : Calls Tryz.prog 96 #[.int .i64 x, .int .i64 y] w fun e w' => e = .returned (.int .i64 (Lib.compareInt x y)) ∧ w' = w := by
  by_cases h : x < y
  · rw [show Lib.compareInt x y = -1 by unfold Lib.compareInt; rw [if_pos h]]
    go_enter Tryz.func96, Tryz.ntmps96
    go_wp2
    go_ret
    exact ⟨rfl, rfl⟩
  · by_cases h' : y < x
    · rw [show Lib.compareInt x y = 1 by unfold Lib.compareInt; rw [if_neg h, if_pos h']]
      go_enter Tryz.func96, Tryz.ntmps96
      go_wp2
      go_ret
      exact ⟨rfl, rfl⟩
    · rw [show Lib.compareInt x y = 0 by unfold Lib.compareInt; rw [if_neg h, if_neg h']]
      go_enter Tryz.func96, Tryz.ntmps96
      go_wp2
      go_ret
      exact ⟨rfl, rfl⟩

theorem drop_consC {s : ByteArray} {pos : Nat} (h : pos < s.size) : s.data.toList.drop pos = s[pos] :: s.data.toList.drop (pos + 1) := by
  rw [List.drop_eq_getElem_cons (by rw [size_len]; exact h)]
  rfl
/-- How far two texts are alike. -/
def likeTo (a b : List UInt8) (k : Nat) : Prop := k ≤ a.length ∧ k ≤ b.length ∧ Lib.compareBytes a b = Lib.compareBytes (a.drop k) (b.drop k)
theorem likeTo_zero (a b : List UInt8) : likeTo a b 0 := ⟨by omega, by omega, by simp⟩
theorem likeTo_succ {s t : ByteArray} {k : Nat} (h : likeTo s.data.toList t.data.toList k) (h1 : k < s.size) (h2 : k < t.size) (e : s[k] = t[k]) : likeTo s.data.toList t.data.toList (k + 1) := by
  refine ⟨by rw [size_len]; omega, by rw [size_len]; omega, ?_⟩
  rw [h.2.2, drop_consC h1, drop_consC h2, e]
  simp [Lib.compareBytes]
theorem likeTo_diff {s t : ByteArray} {k : Nat} (h : likeTo s.data.toList t.data.toList k) (h1 : k < s.size) (h2 : k < t.size) (e : s[k] ≠ t[k]) : Lib.compareBytes s.data.toList t.data.toList = Lib.compareInt (s[k].toNat : Int) (t[k].toNat : Int) := by
  rw [h.2.2, drop_consC h1, drop_consC h2]
  have : s[k].toNat ≠ t[k].toNat := fun x => e (UInt8.toNat_inj.1 x)
  simp only [Lib.compareBytes, Lib.compareInt, UInt8.lt_iff_toNat_lt]
  by_cases h3 : s[k].toNat < t[k].toNat
  · rw [if_pos h3, if_pos (by omega)]
  · rw [if_neg h3, if_pos (by omega), if_neg (by omega), if_pos (by omega)]
theorem likeTo_end {s t : ByteArray} {k : Nat} (h : likeTo s.data.toList t.data.toList k) (hk : ¬ (k < s.size ∧ k < t.size)) : Lib.compareBytes s.data.toList t.data.toList = Lib.compareInt (s.size : Int) (t.size : Int) := by
  obtain ⟨h1, h2, h3⟩ := h
  rw [size_len] at h1 h2
  rw [h3]
  by_cases e : k < s.size
  · have e2 : k = t.size := by omega
    rw [drop_consC e, show t.data.toList.drop k = [] from List.drop_eq_nil_of_le (by rw [size_len]; omega)]
    simp only [Lib.compareBytes, Lib.compareInt]
    rw [if_neg (by omega), if_pos (by omega)]
  · rw [show s.data.toList.drop k = [] from List.drop_eq_nil_of_le (by rw [size_len]; omega)]
    by_cases e2 : k < t.size
    · rw [drop_consC e2]
      simp only [Lib.compareBytes, Lib.compareInt]
      rw [if_pos (by omega)]
    · rw [show t.data.toList.drop k = [] from List.drop_eq_nil_of_le (by rw [size_len]; omega)]
      simp only [Lib.compareBytes, Lib.compareInt]
      rw [if_neg (by omega), if_neg (by omega)]

set_option maxRecDepth 20000 in
set_option maxHeartbeats 2000000 in
theorem refTexts_any (s t : ByteArray) (w : World) (hs : s.size ≤ 2000000) :
    Calls Tryz.prog 58 #[.string s, .string t] w fun e w' => e = .returned (.int .i64 (Lib.compareBytes s.data.toList t.data.toList)) ∧ Below w.heap.size w w' := by
  go_enter Tryz.func58, Tryz.ntmps58
  go_wp2
  go_loopw [5] (fun i wr => ∃ k : Nat, i = .int .i64 k ∧ likeTo s.data.toList t.data.toList k ∧ Below w.heap.size w wr) (fun i _ => s.size - (intOf i).toNat)
  case atStart => exact ⟨0, rfl, likeTo_zero _ _, Below.refl _ w⟩
  case round =>
    obtain ⟨k, rfl, hR, hbw⟩ := hrel
    have hl1 := hR.1
    have hl2 := hR.2.1
    rw [size_len] at hl1 hl2
    by_cases h1 : k < s.size
    · by_cases h2 : k < t.size
      · by_cases e : s[k] = t[k]
        · have HR : Hid (likeTo s.data.toList t.data.toList (k + 1)) := by
            have h := likeTo_succ hR h1 h2 e
            exact h
          have en : (((s[k]).toNat : Int) != ((t[k]).toNat : Int)) = false := by rw [e]; simp
          clear hR e
          go_wp2
          go_region
          all_goals
            go_wp2
            go_roundw
            case rel => exact ⟨k + 1, by go_num, HR.out, hbw.drew⟩
            case measure => simp [intOf]; omega
        · have HL : Hid (Lib.compareBytes s.data.toList t.data.toList = Lib.compareInt (s[k].toNat : Int) (t[k].toNat : Int)) := by
            have h := likeTo_diff hR h1 h2 e
            exact h
          have hn : s[k].toNat ≠ t[k].toNat := fun x => e (UInt8.toNat_inj.1 x)
          have en : (((s[k]).toNat : Int) != ((t[k]).toNat : Int)) = true := by simp; omega
          have hw1 : IntKind.i64.wrap (s[k].toNat : Int) = (s[k].toNat : Int) := wrap_i64 (by omega) (by have := s[k].toNat_lt; omega)
          have hw2 : IntKind.i64.wrap (t[k].toNat : Int) = (t[k].toNat : Int) := wrap_i64 (by omega) (by have := t[k].toNat_lt; omega)
          have HC : ∀ W, Calls Tryz.prog 96 #[.int .i64 (IntKind.i64.wrap (s[k].toNat : Int)), .int .i64 (IntKind.i64.wrap (t[k].toNat : Int))] W fun e w' => e = .returned (.int .i64 (Lib.compareBytes s.data.toList t.data.toList)) ∧ w' = W := fun W => by
            rw [hw1, hw2, HL.out]; exact ints_any _ _ W
          clear hR e hw1 hw2 HL
          go_wp2
          go_region
          all_goals
            go_wp2_with fail
            go_region_held3 (fun _ => True) (trivial) (first | (go_at_call 96; refine (HC _).mono ?_; rintro e w1 ⟨rfl, rfl⟩))
            all_goals first
              | (go_ret; exact ⟨rfl, hbw.drew.drew⟩)
              | (go_wp2; go_ret; exact ⟨rfl, hbw.drew.drew⟩)
              | (go_wp2; all_goals (go_ret; exact ⟨rfl, hbw.drew.drew⟩))
      · have HL : Hid (Lib.compareBytes s.data.toList t.data.toList = Lib.compareInt (s.size : Int) (t.size : Int)) := by
          have h := likeTo_end hR (by omega)
          exact h
        clear hR
        go_wp2_with (go_at_call 96; refine (ints_any _ _ _).mono ?_; rintro e w1 ⟨rfl, rfl⟩)
        go_ret
        exact ⟨by rw [HL.out]; rfl, hbw⟩
    · have HL : Hid (Lib.compareBytes s.data.toList t.data.toList = Lib.compareInt (s.size : Int) (t.size : Int)) := by
        have h := likeTo_end hR (by omega)
        exact h
      clear hR
      go_wp2_with (go_at_call 96; refine (ints_any _ _ _).mono ?_; rintro e w1 ⟨rfl, rfl⟩)
      go_ret
      exact ⟨by rw [HL.out]; rfl, hbw⟩

theorem refTexts_list (a b : List UInt8) (w : World) (ha : a.length ≤ 2000000) : Calls Tryz.prog 58 #[.string ⟨a.toArray⟩, .string ⟨b.toArray⟩] w fun e w' => e = .returned (.int .i64 (Lib.compareBytes a b)) ∧ Below w.heap.size w w' :=
  refTexts_any ⟨a.toArray⟩ ⟨b.toArray⟩ w (by rw [mk_size]; exact ha)

end Go.Proofs.YthlhopdlkkeohaaGreatDoor.U
/- The walks of cmp.Compare of texts, of slices.Compare, Compare and the document's Compare. -/
namespace Go.Proofs.YthlhopdlkkeohaaGreatDoor.U
open Go.RowKit

/-- How far two paths are alike. -/
def stand (xs ys : List (List UInt8)) (k : Nat) : Prop := k ≤ xs.length ∧ k ≤ ys.length ∧ Pt.comp xs ys = Pt.comp (xs.drop k) (ys.drop k)
theorem stand_zero (xs ys : List (List UInt8)) : stand xs ys 0 := ⟨by omega, by omega, by simp⟩
theorem stand_succ {xs ys : List (List UInt8)} {k : Nat} (h : stand xs ys k) (h1 : k < xs.length) (h2 : k < ys.length) (e : Lib.compareBytes xs[k] ys[k] = 0) : stand xs ys (k + 1) := by
  refine ⟨by omega, by omega, ?_⟩
  rw [h.2.2, List.drop_eq_getElem_cons h1, List.drop_eq_getElem_cons h2]
  simp only [Pt.comp]
  rw [if_pos e]
theorem stand_diff {xs ys : List (List UInt8)} {k : Nat} (h : stand xs ys k) (h1 : k < xs.length) (h2 : k < ys.length) (e : Lib.compareBytes xs[k] ys[k] ≠ 0) : Pt.comp xs ys = Lib.compareBytes xs[k] ys[k] := by
  rw [h.2.2, List.drop_eq_getElem_cons h1, List.drop_eq_getElem_cons h2]
  simp only [Pt.comp]
  rw [if_neg e]
theorem drop_all {xs : List (List UInt8)} {k : Nat} (h : ¬ k < xs.length) : xs.drop k = [] := List.drop_eq_nil_of_le (by omega)
theorem stand_more {xs ys : List (List UInt8)} {k : Nat} (h : stand xs ys k) (h1 : k < xs.length) (h2 : ¬ k < ys.length) : Pt.comp xs ys = 1 := by
  rw [h.2.2, List.drop_eq_getElem_cons h1, drop_all h2]; rfl
theorem stand_less {xs ys : List (List UInt8)} {k : Nat} (h : stand xs ys k) (h1 : ¬ k < xs.length) (h2 : k < ys.length) : Pt.comp xs ys = -1 := by
  rw [h.2.2, List.drop_eq_getElem_cons h2, drop_all h1]; rfl
theorem stand_same {xs ys : List (List UInt8)} {k : Nat} (h : stand xs ys k) (h1 : ¬ k < xs.length) (h2 : ¬ k < ys.length) : Pt.comp xs ys = 0 := by
  rw [h.2.2, drop_all h1, drop_all h2]; rfl

theorem ret_int {a b : Int} (h : a = b) : Ending.returned (.int .i64 a) = .returned (.int .i64 b) := by rw [h]

/-- Two texts lie in memory. -/
structure Two (w : World) (p q : Addr) (x y : List UInt8) (W : World) : Prop where
  a : W.cell? p = some (.string ⟨x.toArray⟩)
  b : W.cell? q = some (.string ⟨y.toArray⟩)
  below : Below w.heap.size w W
theorem Two.on {w W W' : World} {p q : Addr} {x y : List UInt8} (h : Two w p q x y W) (hb : Below W.heap.size W W') : Two w p q x y W' :=
  ⟨(hb.cell (World.block_lt_of_cell? _ _ h.a)).trans h.a, (hb.cell (World.block_lt_of_cell? _ _ h.b)).trans h.b, h.below.trans (hb.mono h.below.size)⟩
theorem Two.drew {w W : World} {p q : Addr} {x y : List UInt8} (h : Two w p q x y W) : Two w p q x y W.drew := ⟨h.a, h.b, h.below.drew⟩
theorem Two.parts {w W : World} {p q : Addr} {x y : List UInt8} (h : Two w p q x y W) : W.cell? p = some (.string ⟨x.toArray⟩) ∧ W.cell? q = some (.string ⟨y.toArray⟩) ∧ Below w.heap.size w W := ⟨h.a, h.b, h.below⟩

set_option maxRecDepth 20000 in
set_option maxHeartbeats 2000000 in
theorem refCompare_any (va vb : Value) (xs ys : List (List UInt8)) (w : World) (hx : xs.length ≤ 2000000) (_hy : ys.length ≤ 2000000) (hz : ∀ x ∈ xs, x.length ≤ 2000000) (ha : strsAt w va xs) (hb : strsAt w vb ys) :
    Calls Tryz.prog 22 #[va, vb] w fun e w' => e = .returned (.int .i64 (Pt.comp xs ys)) ∧ Below w.heap.size w w' := by
  obtain ⟨ao, ca, rfl, _, hca⟩ := ha
  obtain ⟨bo, cb, rfl, _, hcb⟩ := hb
  go_enter Tryz.func22, Tryz.ntmps22
  go_wp2
  go_loopw [5] (fun i wr => ∃ k : Nat, i = .int .i64 k ∧ stand xs ys k ∧ Below w.heap.size w wr) (fun i _ => xs.length - (intOf i).toNat)
  case atStart => exact ⟨0, rfl, stand_zero _ _, Below.refl _ w⟩
  case round =>
    obtain ⟨k, rfl, hS, hbw⟩ := hrel
    have hk1 := hS.1
    have hk2 := hS.2.1
    by_cases h1 : k < xs.length
    · by_cases h2 : k < ys.length
      · obtain ⟨ad, rfl, hA⟩ := hca k h1
        obtain ⟨bd, rfl, hB⟩ := hcb k h2
        have hA2 : ∀ W, Below w.heap.size w W → W.cell? (ad.add k) = some (.string ⟨(xs[k]).toArray⟩) := fun W hW => (hW.cell (World.block_lt_of_cell? _ _ hA)).trans hA
        have hB2 : ∀ W, Below w.heap.size w W → W.cell? (bd.add k) = some (.string ⟨(ys[k]).toArray⟩) := fun W hW => (hW.cell (World.block_lt_of_cell? _ _ hB)).trans hB
        have a1 := hA2 wr hbw
        have b1 := hB2 wr hbw
        clear hca hA hcb hB hA2 hB2
        have HC := fun W => refTexts_list xs[k] ys[k] W (hz _ (List.getElem_mem h1))
        clear hz
        by_cases he : Lib.compareBytes xs[k] ys[k] = 0
        · have HS : Hid (stand xs ys (k + 1)) := stand_succ hS h1 h2 he
          rw [he] at HC
          clear hS he
          generalize xs[k] = x at *
          generalize ys[k] = y at *
          go_wp2_with fail
          go_region_held3 (fun W => W.cell? (ad.add k) = some (.string ⟨x.toArray⟩) ∧ W.cell? (bd.add k) = some (.string ⟨y.toArray⟩) ∧ Below w.heap.size w W) (first | exact ⟨a1, b1, hbw⟩ | exact (Two.drew ⟨a1, b1, hbw⟩).parts | exact ((Two.drew ⟨a1, b1, hbw⟩).on hb1).parts) (first | (go_at_call 58; (refine (HC _).mono ?_); rintro e w1 ⟨rfl, hb1⟩))
          all_goals
            go_wp2
            go_roundw
            case rel => exact ⟨k + 1, by go_num, HS.out, (by first | exact hbw.drew.trans (hb1.mono hbw.drew.size) | exact (hbw.drew.trans (hb1.mono hbw.drew.size)).drew)⟩
            case measure => simp [intOf]; omega
        · have HL : Hid (Lib.compareBytes xs[k] ys[k] = Pt.comp xs ys) := (stand_diff hS h1 h2 he).symm
          have hc := Pt.cb_cases xs[k] ys[k]
          have hn : (Lib.compareBytes xs[k] ys[k] != 0) = true := by simpa using he
          clear hS
          generalize xs[k] = x at *
          generalize ys[k] = y at *
          generalize Lib.compareBytes x y = c at *
          go_wp2_with fail
          go_region_held3 (fun W => W.cell? (ad.add k) = some (.string ⟨x.toArray⟩) ∧ W.cell? (bd.add k) = some (.string ⟨y.toArray⟩) ∧ Below w.heap.size w W) (first | exact ⟨a1, b1, hbw⟩ | exact (Two.drew ⟨a1, b1, hbw⟩).parts | exact ((Two.drew ⟨a1, b1, hbw⟩).on hb1).parts) (first | (go_at_call 58; (refine (HC _).mono ?_); rintro e w1 ⟨rfl, hb1⟩))
          all_goals
            go_wp2
            go_ret
            exact ⟨ret_int HL.out, (by first | exact hbw.drew.trans (hb1.mono hbw.drew.size) | exact (hbw.drew.trans (hb1.mono hbw.drew.size)).drew)⟩
      · have HL : Hid (Pt.comp xs ys = 1) := stand_more hS h1 h2
        clear hS hcb hca hz
        go_wp2
        go_ret
        exact ⟨ret_int HL.out.symm, hbw⟩
    · by_cases h2 : k < ys.length
      · have HL : Hid (Pt.comp xs ys = -1) := stand_less hS h1 h2
        clear hS hcb hca hz
        go_wp2
        go_ret
        exact ⟨ret_int HL.out.symm, hbw⟩
      · have HL : Hid (Pt.comp xs ys = 0) := stand_same hS h1 h2
        clear hS hcb hca hz
        go_wp2
        go_ret
        exact ⟨ret_int HL.out.symm, hbw⟩

end Go.Proofs.YthlhopdlkkeohaaGreatDoor.U
