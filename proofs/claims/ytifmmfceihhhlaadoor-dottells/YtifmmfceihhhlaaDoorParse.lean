/- The walks of the program's Parse, and of what it calls. -/
import Derived.Test.YtifmmfceihhhlaaDoorTexts
import Derived.BigQuiet
import Derived.Deep.QuietTactic
namespace Go.Proofs.YtifmmfceihhhlaaDoor
open Go.RowKit

theorem index_lt : ∀ (l : List UInt8) (c : UInt8), Lib.indexByte l c < (l.length : Int)
  | [], _ => by simp [Lib.indexByte]
  | b :: l, c => by
    have := index_lt l c
    unfold Lib.indexByte
    split
    · simp only [List.length_cons]; omega
    · split
      · simp only [List.length_cons]; omega
      · simp only [List.length_cons]; omega

set_option maxRecDepth 20000 in
/-- Where the first point of a text stands. -/
theorem index_any (s : ByteArray) (w : World) :
    Calls Tryd.prog 48 #[.string s, .string ⟨#[46]⟩] w fun e w' => e = .returned (.int .i64 (Lib.indexByte s.data.toList 46)) ∧ w' = w := by
  have HC : ∀ w, Calls Tryd.prog 59 #[.string s, .int .u8 46] w fun e w' => e = .returned (.int .i64 (Lib.indexByte s.data.toList 46)) ∧ w' = w := fun w => indexByte_any s 46 w
  by_cases h : s.data.toList = [46]
  · have hb : ([46] == s.toList) = true := by rw [Lib.toList_data, h]; rfl
    rw [h, show Lib.indexByte [46] 46 = 0 by simp [Lib.indexByte]]
    clear HC
    go_enter Tryd.func48, Tryd.ntmps48
    go_wp2
    go_ret
    exact ⟨rfl, rfl⟩
  · have hb : ([46] == s.toList) = false := by rw [Lib.toList_data, beq_eq_false_iff_ne]; exact fun e => h e.symm
    go_enter Tryd.func48, Tryd.ntmps48
    go_wp2_with (go_at_call 59; refine (HC _).mono ?_; rintro e w1 ⟨rfl, rfl⟩)
    go_ret
    exact ⟨rfl, rfl⟩

/-- What a text is parted in at its first point. -/
def partsOf (s a b : ByteArray) : Prop := a.size ≤ s.size ∧ b.size ≤ s.size ∧ ∀ x y : List UInt8, (∀ c ∈ x, c ≠ 46) → s.data.toList = x ++ 46 :: y → a.data.toList = x ∧ b.data.toList = y
theorem extract_toList (s : ByteArray) (a b : Nat) : (s.extract a b).data.toList = (s.data.toList.take b).drop a := by
  rw [ByteArray.data_extract, Array.toList_extract, List.extract_eq_take_drop, List.drop_take]

set_option maxRecDepth 20000 in
theorem cut_in (s : ByteArray) (w : World) (hs : s.size ≤ 1000000) :
    Calls Tryd.prog 42 #[.string s, .string ⟨#[46]⟩] w fun e w' => ∃ a b f, e = .returned (.tuple #[.string a, .string b, .bool f]) ∧ partsOf s a b ∧ Below w.heap.size w w' := by
  have h1 := Lib.indexByte_ge s.data.toList 46
  have h2 := index_lt s.data.toList 46
  have hz : s.data.toList.length = s.size := rfl
  rw [hz] at h2
  have HX : Hid (∀ x y : List UInt8, (∀ c ∈ x, c ≠ 46) → s.data.toList = x ++ 46 :: y → Lib.indexByte s.data.toList 46 = x.length) := by
    have h : ∀ x y : List UInt8, (∀ c ∈ x, c ≠ 46) → s.data.toList = x ++ 46 :: y → Lib.indexByte s.data.toList 46 = x.length := fun x y hx e => by rw [e]; exact Dt.index_point x y hx
    exact h
  have HC : ∀ w, Calls Tryd.prog 48 #[.string s, .string ⟨#[46]⟩] w fun e w' => e = .returned (.int .i64 (Lib.indexByte s.data.toList 46)) ∧ w' = w := fun w => index_any s w
  generalize Lib.indexByte s.data.toList 46 = i at *
  by_cases hi : 0 ≤ i
  · obtain ⟨k, rfl⟩ := Int.eq_ofNat_of_zero_le hi
    have hk : (k : Int) ≤ (s.size : Int) := by omega
    have hk1 : 0 ≤ (k : Int) + 1 ∧ (k : Int) + 1 ≤ (s.size : Int) := by omega
    have hw : IntKind.i64.wrap ((k : Int) + 1) = (k : Int) + 1 := wrap_i64 (by omega) (by omega)
    go_enter Tryd.func42, Tryd.ntmps42
    go_wp2_with (go_at_call 48; refine (HC _).mono ?_; rintro e w1 ⟨rfl, rfl⟩)
    go_region_held3 (fun _ => True) (trivial) (fail)
    go_wp2
    go_ret3
    refine ⟨_, _, _, rfl, ⟨?_, ?_, fun x y hx e => ?_⟩, (Below.refl _ _).drew⟩
    · rw [ByteArray.size_extract]; omega
    · rw [ByteArray.size_extract]; omega
    · obtain rfl : k = x.length := by have := HX.out x y hx e; omega
      rw [extract_toList, extract_toList, e]
      refine ⟨by simp, ?_⟩
      rw [List.take_of_length_le (by rw [← e]; exact Nat.le_of_eq hz), ← List.drop_drop]
      simp
  · go_enter Tryd.func42, Tryd.ntmps42
    go_wp2_with (go_at_call 48; refine (HC _).mono ?_; rintro e w1 ⟨rfl, rfl⟩)
    go_ret3
    exact ⟨s, _, _, rfl, ⟨Nat.le_refl _, by show 0 ≤ s.size; omega, fun x y hx e => absurd (HX.out x y hx e) (by omega)⟩, Below.refl _ _⟩
theorem cut_any (s : ByteArray) (w : World) (hs : s.size ≤ 1000000) :
    Calls Tryd.prog 35 #[.string s, .string ⟨#[46]⟩] w fun e w' => ∃ a b f, e = .returned (.tuple #[.string a, .string b, .bool f]) ∧ partsOf s a b ∧ Below w.heap.size w w' := by
  go_enter Tryd.func35, Tryd.ntmps35
  go_wp2_with (go_at_call 42; refine (cut_in s _ hs).mono ?_; rintro e w1 ⟨a, b, f, rfl, hp, hb⟩)
  go_ret3
  exact ⟨a, b, f, rfl, hp, hb⟩

/-- Two cells that were stored. -/
theorem stored2 {W : World} {b : Nat} {x0 y0 : Value} (h0 : W.cell? ⟨b, 0, none⟩ = some x0) (h1 : W.cell? ⟨b, 1, none⟩ = some y0) (x y : Value) :
    ((W.setCell ⟨b, 0, none⟩ x).setCell ⟨b, 1, none⟩ y).cell? ⟨b, 0, none⟩ = some x ∧ ((W.setCell ⟨b, 0, none⟩ x).setCell ⟨b, 1, none⟩ y).cell? ⟨b, 1, none⟩ = some y :=
  ⟨(World.cell?_setCell_other _ _ _ _ (by simp)).trans (World.cell?_setCell_same _ _ _ h0), World.cell?_setCell_same _ _ _ ((World.cell?_setCell_other _ _ _ _ (by simp)).trans h1)⟩
theorem text_eq {r n : Int} {s : ByteArray} : (⟨(Dt.text r n).toArray⟩ : ByteArray) = s ↔ Dt.text r n = s.data.toList := by
  constructor
  · rintro rfl; simp
  · intro h; rw [h]

set_option maxRecDepth 20000 in
/-- The text of a right dot is parsed. -/
theorem parse_ok (s : ByteArray) (r n : Int) (w : World) (hk : Keeps w) (hs : s.size ≤ 1000000) (hd : Dt.isDot s.data.toList r n) :
    Calls Tryd.prog 19 #[.string s] w fun e w' => e = .returned (.tuple #[dotV r n, .int .i64 0]) ∧ Below w.heap.size w w' := by
  obtain ⟨h1, h2⟩ := hd
  have hq := Dt.right_iff.1 h1
  obtain ⟨R, rfl⟩ := Int.eq_ofNat_of_zero_le hq.1
  obtain ⟨N, rfl⟩ := Int.eq_ofNat_of_zero_le (show 0 ≤ n by omega)
  have HR : ∀ w, Calls Tryd.prog 8 #[dotV (R : Int) (N : Int)] w fun e w' => e = .returned (.bool true) ∧ Below w.heap.size w w' := fun w => by have := right_any R N w; rw [h1] at this; exact this
  have HT : ∀ w, Keeps w → Calls Tryd.prog 10 #[dotV (R : Int) (N : Int)] w fun e w' => e = .returned (.string s) ∧ Below w.heap.size w w' := fun w hk => by
    have := text_any R N w hk (by omega) (by omega) (by omega) (by omega)
    rw [text_eq.2 h2] at this; exact this
  have hneq : (s.toList != s.toList) = false := by simp
  have HP : Hid (s.data.toList = Lib.decDigits R ++ 46 :: Lib.decDigits N) := by
    have : s.data.toList = Lib.decDigits R ++ 46 :: Lib.decDigits N := by rw [← h2, Dt.text_nat]
    exact this
  clear h2 h1
  go_enter Tryd.func19, Tryd.ntmps19
  go_wp2_with fail
  refine (cut_any s _ hs).mono ?_
  rintro e w1 ⟨a, b, f, rfl, hp, hb1⟩
  obtain ⟨ha, hb', hp'⟩ := hp
  obtain ⟨hpa, hpb⟩ := hp' _ _ (fun c hc => Dt.dec_no_point hc) HP.out
  have HA : Hid (a.data.toList = Lib.decDigits R) := hpa
  have HB : Hid (b.data.toList = Lib.decDigits N) := hpb
  clear hp' hpa hpb
  go_wp2_with fail
  refine (atoi_any a _ (hk.on (bchain (below_new _ _) hb1)) (by omega)).mono ?_
  rintro e w2 ⟨v, x, rfl, _, hv, hb2⟩
  obtain rfl : v = (R : Int) := hv R (by omega) HA.out
  clear hv
  go_wp2_with fail
  refine (atoi_any b _ (hk.on (bchain (bchain (below_new _ _) hb1) hb2)) (by omega)).mono ?_
  rintro e w3 ⟨v, x', rfl, _, hv, hb3⟩
  obtain rfl : v = (N : Int) := hv N (by omega) HB.out
  clear hv
  have c0 : (w3.alloc (.cells #[.int .i64 (R : Int), .int .i64 (N : Int)] 23)).cell? ⟨w3.heap.size, 0, none⟩ = some (.int .i64 (R : Int)) := by simp
  have c1 : (w3.alloc (.cells #[.int .i64 (R : Int), .int .i64 (N : Int)] 23)).cell? ⟨w3.heap.size, 1, none⟩ = some (.int .i64 (N : Int)) := by simp
  have z0 : (w.alloc (.cells #[.int .i64 0, .int .i64 0] 23)).cell? ⟨w.heap.size, 0, none⟩ = some (.int .i64 0) := by simp
  have z1 : (w.alloc (.cells #[.int .i64 0, .int .i64 0] 23)).cell? ⟨w.heap.size, 1, none⟩ = some (.int .i64 0) := by simp
  have y0 : (w.alloc (.cells #[.int .i64 0, .int .i64 0] 23)).frozen? ⟨w.heap.size, 0, none⟩ = false := by simp
  have y1 : (w.alloc (.cells #[.int .i64 0, .int .i64 0] 23)).frozen? ⟨w.heap.size, 1, none⟩ = false := by simp
  have hb123 := bchain (bchain hb1 hb2) hb3
  go_wp2_with fail
  refine (HR _).mono ?_
  rintro e w4 ⟨rfl, hb4⟩
  have k0 := keep_cell hb4 c0
  have k1 := keep_cell hb4 c1
  go_wp2_with fail
  refine (HT _ (hk.on (bchain (bchain (bchain (below_new _ _) hb123) (below_new _ _)) hb4))).mono ?_
  rintro e w5 ⟨rfl, hb5⟩
  have l0 := keep_cell hb5 k0
  have l1 := keep_cell hb5 k1
  have hball := bchain (bchain (bchain hb123 (below_new _ _)) hb4) hb5
  have z0' := keep_cell hball z0
  have z1' := keep_cell hball z1
  have y0' := (hball.frozen (p := ⟨w.heap.size, 0, none⟩) (by simp)).trans y0
  have y1' := (hball.frozen (p := ⟨w.heap.size, 1, none⟩) (by simp)).trans y1
  go_wp2
  have e01 := stored2 z0' z1' (.int .i64 (R : Int)) (.int .i64 (N : Int))
  refine bodyPost_ret (v := .tuple #[dotV R N, .int .i64 0]) (by simp [results, Tryd.results19, go_sem, e01.1, e01.2]) rfl ⟨rfl, ?_⟩
  exact ((bchain (below_new _ _) hball).setCell (Nat.le_refl _) _).setCell (Nat.le_refl _) _

set_option maxRecDepth 20000 in
/-- A text that is no right dot's is refused. -/
theorem parse_no (s : ByteArray) (w : World) (hk : Keeps w) (hs : s.size ≤ 1000000) (hd : Dt.noDot s.data.toList) :
    Calls Tryd.prog 19 #[.string s] w fun e w' => e = .returned (.tuple #[dotV 0 0, .int .i64 19]) ∧ Below w.heap.size w w' := by
  have HD : Hid (Dt.noDot s.data.toList) := hd
  clear hd
  have z0 : (w.alloc (.cells #[.int .i64 0, .int .i64 0] 23)).cell? ⟨w.heap.size, 0, none⟩ = some (.int .i64 0) := by simp
  have z1 : (w.alloc (.cells #[.int .i64 0, .int .i64 0] 23)).cell? ⟨w.heap.size, 1, none⟩ = some (.int .i64 0) := by simp
  have y0 : (w.alloc (.cells #[.int .i64 0, .int .i64 0] 23)).frozen? ⟨w.heap.size, 0, none⟩ = false := by simp
  have y1 : (w.alloc (.cells #[.int .i64 0, .int .i64 0] 23)).frozen? ⟨w.heap.size, 1, none⟩ = false := by simp
  go_enter Tryd.func19, Tryd.ntmps19
  go_wp2_with fail
  refine (cut_any s _ hs).mono ?_
  rintro e w1 ⟨a, b, f, rfl, hp, hb1⟩
  obtain ⟨ha, hb', hp'⟩ := hp
  clear hp'
  go_wp2_with fail
  refine (atoi_any a _ (hk.on (bchain (below_new _ _) hb1)) (by omega)).mono ?_
  rintro e w2 ⟨r, x, rfl, hr, hv, hb2⟩
  clear hv
  go_wp2_with fail
  refine (atoi_any b _ (hk.on (bchain (bchain (below_new _ _) hb1) hb2)) (by omega)).mono ?_
  rintro e w3 ⟨n, x', rfl, hn, hv, hb3⟩
  clear hv
  have c0 : (w3.alloc (.cells #[.int .i64 r, .int .i64 n] 23)).cell? ⟨w3.heap.size, 0, none⟩ = some (.int .i64 r) := by simp
  have c1 : (w3.alloc (.cells #[.int .i64 r, .int .i64 n] 23)).cell? ⟨w3.heap.size, 1, none⟩ = some (.int .i64 n) := by simp
  have hb123 := bchain (bchain hb1 hb2) hb3
  by_cases hq : Dt.right r n = true
  · have HR : ∀ w, Calls Tryd.prog 8 #[dotV r n] w fun e w' => e = .returned (.bool true) ∧ Below w.heap.size w w' := fun w => by have := right_any r n w; rw [hq] at this; exact this
    have hne : (Dt.text r n == s.toList) = false := by rw [Lib.toList_data, beq_eq_false_iff_ne]; exact HD.out r n hq
    clear hq
    go_wp2_with fail
    refine (HR _).mono ?_
    rintro e w4 ⟨rfl, hb4⟩
    have k0 := keep_cell hb4 c0
    have k1 := keep_cell hb4 c1
    go_wp2_with fail
    refine (text_any r n _ (hk.on (bchain (bchain (bchain (below_new _ _) hb123) (below_new _ _)) hb4)) hr.1 hr.2 hn.1 hn.2).mono ?_
    rintro e w5 ⟨rfl, hb5⟩
    have hball := bchain (bchain (bchain hb123 (below_new _ _)) hb4) hb5
    have z0' := keep_cell hball z0
    have z1' := keep_cell hball z1
    have y0' := (hball.frozen (p := ⟨w.heap.size, 0, none⟩) (by simp)).trans y0
    have y1' := (hball.frozen (p := ⟨w.heap.size, 1, none⟩) (by simp)).trans y1
    go_wp2
    have e01 := stored2 z0' z1' (.int .i64 0) (.int .i64 0)
    refine bodyPost_ret (v := .tuple #[dotV 0 0, .int .i64 19]) (by simp [results, Tryd.results19, go_sem, e01.1, e01.2]) rfl ⟨rfl, ?_⟩
    exact ((bchain (below_new _ _) hball).setCell (Nat.le_refl _) _).setCell (Nat.le_refl _) _
  · have hq' : Dt.right r n = false := by simpa using hq
    have HR : ∀ w, Calls Tryd.prog 8 #[dotV r n] w fun e w' => e = .returned (.bool false) ∧ Below w.heap.size w w' := fun w => by have := right_any r n w; rw [hq'] at this; exact this
    clear hq hq'
    go_wp2_with fail
    refine (HR _).mono ?_
    rintro e w4 ⟨rfl, hb4⟩
    have hball := bchain (bchain hb123 (below_new _ _)) hb4
    have z0' := keep_cell hball z0
    have z1' := keep_cell hball z1
    have y0' := (hball.frozen (p := ⟨w.heap.size, 0, none⟩) (by simp)).trans y0
    have y1' := (hball.frozen (p := ⟨w.heap.size, 1, none⟩) (by simp)).trans y1
    go_wp2
    have e01 := stored2 z0' z1' (.int .i64 0) (.int .i64 0)
    refine bodyPost_ret (v := .tuple #[dotV 0 0, .int .i64 19]) (by simp [results, Tryd.results19, go_sem, e01.1, e01.2]) rfl ⟨rfl, ?_⟩
    exact ((bchain (below_new _ _) hball).setCell (Nat.le_refl _) _).setCell (Nat.le_refl _) _
end Go.Proofs.YtifmmfceihhhlaaDoor
