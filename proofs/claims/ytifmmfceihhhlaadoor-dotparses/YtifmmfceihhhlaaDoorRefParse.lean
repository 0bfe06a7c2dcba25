/- The walk of the document's Parse. -/
import Derived.Test.YtifmmfceihhhlaaDoorParse
import Derived.Test.YtifmmfceihhhlaaDoorReader
namespace Go.Proofs.YtifmmfceihhhlaaDoor
open Go.RowKit

/-- Of the replicas below k none has a dot that is told so. -/
def noneTo (l : List UInt8) (k : Nat) : Prop := ∀ r n : Int, Dt.right r n = true → r < k → Dt.text r n ≠ l
/-- All of these are digits. -/
def digs (l : List UInt8) : Prop := ∀ c ∈ l, 48 ≤ c.toNat ∧ c.toNat ≤ 57
theorem noneTo_zero (l : List UInt8) : noneTo l 0 := fun r n h hr => by have := Dt.right_iff.1 h; omega
theorem noneTo_all {l : List UInt8} (h : noneTo l 16) : Dt.noDot l := fun r n hr => h r n hr (by have := Dt.right_iff.1 hr; omega)
/-- The text ahead of a dot's number. -/
def headL (k : Nat) : List UInt8 := Lib.decDigits k ++ [46]
theorem text_head (k n : Nat) : Dt.text (k : Int) (n : Int) = headL k ++ Lib.decDigits n := by rw [Dt.text_nat, headL]; simp
theorem noneTo_succ {l : List UInt8} {k : Nat} (h : noneTo l k) (hk : ∀ n : Nat, 1 ≤ n → n ≤ 1048576 → headL k ++ Lib.decDigits n ≠ l) : noneTo l (k + 1) := by
  intro r n hr hlt
  by_cases e : r < k
  · exact h r n hr e
  · have hq := Dt.right_iff.1 hr
    obtain rfl : r = (k : Int) := by omega
    obtain ⟨N, rfl⟩ := Int.eq_ofNat_of_zero_le (show 0 ≤ n by omega)
    rw [text_head]
    exact hk N (by omega) (by omega)
theorem nDig7 {n : Nat} (h : n ≤ 1048576) : Lib.nDigits n ≤ 7 := by
  by_cases h0 : n = 0
  · subst h0; rw [Lib.nDigits_small (by omega)]; omega
  · have key : ∀ k, k ≤ 6 → 10 ^ k ≤ n → n < 10 ^ (k + 1) → Lib.nDigits n ≤ 7 := fun k hk h1 h2 => by rw [Lib.nDigits_unique k n h1 h2]; omega
    by_cases h1 : n < 10
    · exact key 0 (by omega) (by omega) (by omega)
    by_cases h2 : n < 100
    · exact key 1 (by omega) (by omega) (by omega)
    by_cases h3 : n < 1000
    · exact key 2 (by omega) (by omega) (by omega)
    by_cases h4 : n < 10000
    · exact key 3 (by omega) (by omega) (by omega)
    by_cases h5 : n < 100000
    · exact key 4 (by omega) (by omega) (by omega)
    by_cases h6 : n < 1000000
    · exact key 5 (by omega) (by omega) (by omega)
    exact key 6 (by omega) (by omega) (by omega)
theorem dec_len7 {n : Nat} (h : n ≤ 1048576) : 1 ≤ (Lib.decDigits n).length ∧ (Lib.decDigits n).length ≤ 7 := by
  rw [Lib.decDigits_length]; exact ⟨Lib.nDigits_pos n, nDig7 h⟩
theorem head_len {k : Nat} (h : k < 16) : (headL k).length ≤ 3 ∧ 2 ≤ (headL k).length := by
  have := dec_len7 (n := k) (by omega)
  have : Lib.nDigits k ≤ 2 := by
    by_cases h1 : k < 10
    · rw [Lib.nDigits_small h1]; omega
    · rw [Lib.nDigits_big h1, Lib.nDigits_small (by omega)]; omega
  have e := Lib.decDigits_length k
  simp only [headL, List.length_append, List.length_singleton]; omega
/-- A text that begins otherwise, or is too short or too long, is none of this replica's. -/
theorem skip_head {l : List UInt8} {k : Nat} (h : l.length ≤ (headL k).length ∨ (headL k).length + 7 < l.length ∨ l.take (headL k).length ≠ headL k) : ∀ n : Nat, 1 ≤ n → n ≤ 1048576 → headL k ++ Lib.decDigits n ≠ l := by
  rintro n h1 h2 rfl
  have := dec_len7 h2
  simp only [List.length_append] at h
  rcases h with h | h | h
  · omega
  · omega
  · exact h (by simp)
/-- Behind this head there stands something that is no digit: no dot's. -/
theorem no_digit {l rest : List UInt8} {k : Nat} (hl : l = headL k ++ rest) (hn : ¬ digs rest) : Dt.noDot l := by
  intro r n hr e
  have hq := Dt.right_iff.1 hr
  obtain ⟨R, rfl⟩ := Int.eq_ofNat_of_zero_le hq.1
  obtain ⟨N, rfl⟩ := Int.eq_ofNat_of_zero_le (show 0 ≤ n by omega)
  rw [Dt.text_nat, hl, headL, List.append_assoc, List.singleton_append] at e
  have := Dt.part_point (fun c hc => Dt.dec_no_point hc) (fun c hc => Dt.dec_no_point hc) e
  exact hn (this.2 ▸ fun c hc => Dt.dec_digit N c hc)
/-- Digits behind the head: if they are told so, they are the dot's; else there is none. -/
theorem one_dot {l rest : List UInt8} {k : Nat} (hl : l = headL k ++ rest) (hn : ¬ (Dt.right k (Dt.dval rest : Nat) = true ∧ Dt.text k (Dt.dval rest : Nat) = l)) : Dt.noDot l := by
  intro r n hr e
  have hq := Dt.right_iff.1 hr
  obtain ⟨R, rfl⟩ := Int.eq_ofNat_of_zero_le hq.1
  obtain ⟨N, rfl⟩ := Int.eq_ofNat_of_zero_le (show 0 ≤ n by omega)
  have e2 := e
  rw [Dt.text_nat, hl, headL, List.append_assoc, List.singleton_append] at e2
  have := Dt.part_point (fun c hc => Dt.dec_no_point hc) (fun c hc => Dt.dec_no_point hc) e2
  have hR := Dt.dec_inj this.1
  subst hR
  have hN : Dt.dval rest = N := by rw [← this.2, Dt.dval_dec]
  rw [hN] at hn
  exact hn ⟨hr, e⟩

theorem take_head {s : ByteArray} {k : Nat} : (s.extract 0 ((Lib.decDigits k).length + 1)).toList = s.data.toList.take (headL k).length := by
  rw [Lib.toList_data, extract_toList, List.drop_zero]; simp [headL]
theorem head_list {k : Nat} : ((⟨(Lib.decDigits k).toArray⟩ : ByteArray) ++ ⟨#[46]⟩).toList = headL k := by
  rw [show (⟨#[46]⟩ : ByteArray) = ⟨[46].toArray⟩ from rfl, cat_lists, Lib.toList_data]; rfl
/-- How far the digits have been read. -/
def readTo (rest : List UInt8) (j m : Nat) : Prop := j ≤ rest.length ∧ digs (rest.take j) ∧ m = Dt.dval (rest.take j)
theorem readTo_zero (rest : List UInt8) : readTo rest 0 0 := ⟨Nat.zero_le _, by simp [digs], by simp [Dt.dval]⟩
theorem readTo_lt {rest : List UInt8} {j m : Nat} (h : readTo rest j m) (hr : rest.length ≤ 7) : m < 10000000 := by
  obtain ⟨h1, h2, rfl⟩ := h
  have := Dt.dval_lt (rest.take j) (fun c hc => (h2 c hc).2)
  have h3 : 10 ^ (rest.take j).length ≤ 10 ^ 7 := Nat.pow_le_pow_right (by omega) (by simp; omega)
  omega
theorem readTo_succ {rest : List UInt8} {j m : Nat} (h : readTo rest j m) (hj : j < rest.length) (h48 : 48 ≤ rest[j].toNat) (h57 : rest[j].toNat ≤ 57) : readTo rest (j + 1) (10 * m + (rest[j].toNat - 48)) := by
  obtain ⟨h1, h2, rfl⟩ := h
  have e : rest.take (j + 1) = rest.take j ++ [rest[j]] := by rw [List.take_add_one, List.getElem?_eq_getElem hj]; rfl
  refine ⟨hj, ?_, by rw [e, Dt.dval_snoc]⟩
  rw [e]
  intro c hc
  rcases List.mem_append.1 hc with hc | hc
  · exact h2 c hc
  · simp only [List.mem_singleton] at hc; subst hc; exact ⟨h48, h57⟩
theorem readTo_bad {rest : List UInt8} {j : Nat} (hj : j < rest.length) (h : ¬ (48 ≤ rest[j].toNat ∧ rest[j].toNat ≤ 57)) : ¬ digs rest := fun hd => h (hd _ (List.getElem_mem hj))
theorem readTo_all {rest : List UInt8} {m : Nat} (h : readTo rest rest.length m) : m = Dt.dval rest := by obtain ⟨_, _, e⟩ := h; rwa [List.take_length] at e

/-- What the document's Parse tells: the dot and true; or false, and there is none. -/
def toldDot (l : List UInt8) (e : Ending) : Prop := (∃ r n : Int, e = .returned (.tuple #[dotV r n, .bool true]) ∧ Dt.isDot l r n) ∨ (∃ r n : Int, e = .returned (.tuple #[dotV r n, .bool false]) ∧ Dt.noDot l)
theorem told_no {l : List UInt8} (r n : Int) (h : Dt.noDot l) : toldDot l (.returned (.tuple #[dotV r n, .bool false])) := .inr ⟨r, n, rfl, h⟩
theorem told_yes {l : List UInt8} {r n : Int} (h : Dt.isDot l r n) : toldDot l (.returned (.tuple #[dotV r n, .bool true])) := .inl ⟨r, n, rfl, h⟩

set_option maxRecDepth 20000 in
set_option maxHeartbeats 2000000 in
theorem refParse_any (s : ByteArray) (w : World) (hs : s.size ≤ 1000000) :
    Calls Tryd.prog 20 #[.string s] w fun e w' => toldDot s.data.toList e ∧ Below w.heap.size w w' := by
  have z0 : (w.alloc (.cells #[.int .i64 0, .int .i64 0] 23)).cell? ⟨w.heap.size, 0, none⟩ = some (.int .i64 0) := by simp
  have z1 : (w.alloc (.cells #[.int .i64 0, .int .i64 0] 23)).cell? ⟨w.heap.size, 1, none⟩ = some (.int .i64 0) := by simp
  have y0 : (w.alloc (.cells #[.int .i64 0, .int .i64 0] 23)).frozen? ⟨w.heap.size, 0, none⟩ = false := by simp
  have y1 : (w.alloc (.cells #[.int .i64 0, .int .i64 0] 23)).frozen? ⟨w.heap.size, 1, none⟩ = false := by simp
  have Bz := below_new w (.cells #[.int .i64 0, .int .i64 0] 23)
  go_enter Tryd.func20, Tryd.ntmps20
  go_wp2
  generalize w.alloc (.cells #[.int .i64 0, .int .i64 0] 23) = Z at *
  go_loopw [4] (fun v wr => ∃ k : Nat, k ≤ 16 ∧ v = .int .i64 k ∧ noneTo s.data.toList k ∧ Below Z.heap.size Z wr) (fun v _ => 16 - (intOf v).toNat)
  case atStart => exact ⟨0, by omega, rfl, noneTo_zero _, Below.refl _ _⟩
  case round =>
    obtain ⟨k, hk, rfl, hno, hB⟩ := hrel
    have HNO : Hid (noneTo s.data.toList k) := hno
    clear hno
    by_cases h16 : k = 16
    · subst h16
      have z0' := keep_cell hB z0
      have z1' := keep_cell hB z1
      have y0' := (hB.frozen (p := ⟨w.heap.size, 0, none⟩) (World.block_lt_of_cell? _ _ z0)).trans y0
      have y1' := (hB.frozen (p := ⟨w.heap.size, 1, none⟩) (World.block_lt_of_cell? _ _ z1)).trans y1
      go_wp2
      have e01 := stored2 z0' z1' (.int .i64 0) (.int .i64 0)
      refine bodyPost_ret (v := .tuple #[dotV 0 0, .bool false]) (by simp [results, Tryd.results20, go_sem, e01.1, e01.2]) rfl ⟨told_no 0 0 (noneTo_all HNO.out), ?_⟩
      exact ((bchain Bz hB).setCell (Nat.le_refl _) _).setCell (Nat.le_refl _) _
    · have hk' : (k : Int) < 16 := by omega
      have hl := head_len (k := k) (by omega)
      have hle : (headL k).length = (Lib.decDigits k).length + 1 := by simp [headL]
      have HD := digits_nat k k wr (Nat.le_refl _) (by omega)
      by_cases g1 : ((Lib.decDigits k).length : Int) + 1 < (s.size : Int)
      rotate_left
      · have HS := noneTo_succ HNO.out (skip_head (l := s.data.toList) (k := k) (.inl (by show s.size ≤ _; omega)))
        have HS' : Hid (noneTo s.data.toList (k + 1)) := HS
        clear HS
        go_wp2_with (go_at_call 29; refine HD.mono ?_; rintro e w1 ⟨rfl, hb1⟩)
        go_roundw
        case rel => exact ⟨k + 1, by omega, by simp, HS'.out, hB.trans (hb1.mono hB.size)⟩
        case measure => simp [intOf]; omega
      by_cases g2 : (s.size : Int) ≤ ((Lib.decDigits k).length : Int) + 1 + 7
      rotate_left
      · have HS := noneTo_succ HNO.out (skip_head (l := s.data.toList) (k := k) (.inr (.inl (by show _ < s.size; omega))))
        have HS' : Hid (noneTo s.data.toList (k + 1)) := HS
        clear HS
        go_wp2_with (go_at_call 29; refine HD.mono ?_; rintro e w1 ⟨rfl, hb1⟩)
        go_roundw
        case rel => exact ⟨k + 1, by omega, by simp, HS'.out, hB.trans (hb1.mono hB.size)⟩
        case measure => simp [intOf]; omega
      by_cases g3 : s.data.toList.take (headL k).length = headL k
      rotate_left
      · have HS := noneTo_succ HNO.out (skip_head (l := s.data.toList) (k := k) (.inr (.inr g3)))
        have HS' : Hid (noneTo s.data.toList (k + 1)) := HS
        have hbq : ((s.extract 0 ((Lib.decDigits k).length + 1)).toList == ((⟨(Lib.decDigits k).toArray⟩ : ByteArray) ++ ⟨#[46]⟩).toList) = false := by rw [take_head, head_list, beq_eq_false_iff_ne]; exact g3
        clear HS g3
        have g0 : 0 ≤ ((Lib.decDigits k).length : Int) + 1 ∧ ((Lib.decDigits k).length : Int) + 1 ≤ (s.size : Int) := by omega
        go_wp2_with (go_at_call 29; refine HD.mono ?_; rintro e w1 ⟨rfl, hb1⟩)
        go_roundw
        case rel => exact ⟨k + 1, by omega, by simp, HS'.out, hB.trans (hb1.mono hB.size)⟩
        case measure => simp [intOf]; omega
      have hbq : ((s.extract 0 ((Lib.decDigits k).length + 1)).toList == ((⟨(Lib.decDigits k).toArray⟩ : ByteArray) ++ ⟨#[46]⟩).toList) = true := by rw [take_head, head_list, beq_iff_eq]; exact g3
      obtain ⟨rest, hrest⟩ : ∃ rest, s.data.toList = headL k ++ rest := ⟨s.data.toList.drop (headL k).length, by conv => lhs; rw [← List.take_append_drop (headL k).length s.data.toList, g3]⟩
      have hlen : (Lib.decDigits k).length + 1 + rest.length = s.size := by have : s.data.toList.length = s.size := rfl; rw [hrest, List.length_append, hle] at this; exact this
      have HREST : Hid (s.data.toList = headL k ++ rest) := hrest
      clear hrest g3
      have g0 : 0 ≤ ((Lib.decDigits k).length : Int) + 1 ∧ ((Lib.decDigits k).length : Int) + 1 ≤ (s.size : Int) := by omega
      have hr7 : rest.length ≤ 7 := by omega
      go_wp2_with (go_at_call 29; refine HD.mono ?_; rintro e w1 ⟨rfl, hb1⟩)
      have hB1 := hB.trans (hb1.mono hB.size)
      have z0' := keep_cell hB1 z0
      have z1' := keep_cell hB1 z1
      have y0' := (hB1.frozen (p := ⟨w.heap.size, 0, none⟩) (World.block_lt_of_cell? _ _ z0)).trans y0
      have y1' := (hB1.frozen (p := ⟨w.heap.size, 1, none⟩) (World.block_lt_of_cell? _ _ z1)).trans y1
      go_loop [6, 7] (fun n i => ∃ j m : Nat, i = .int .i64 (((Lib.decDigits k).length + 1 + j : Nat) : Int) ∧ n = .int .i64 (m : Int) ∧ readTo rest j m) (fun _ i => s.size - (intOf i).toNat)
      case atStart => exact ⟨0, 0, by simp, rfl, readTo_zero _⟩
      case round =>
        obtain ⟨j, m, rfl, rfl, hrd⟩ := hrel
        have hm := readTo_lt hrd hr7
        have hjl := hrd.1
        have HRD : Hid (readTo rest j m) := hrd
        clear hrd
        by_cases hj : j < rest.length
        · have hp : (Lib.decDigits k).length + 1 + j < s.size := by omega
          have hget : s[(Lib.decDigits k).length + 1 + j] = rest[j] := by
            have e1 : s[(Lib.decDigits k).length + 1 + j] = s.data.toList[(Lib.decDigits k).length + 1 + j]'hp := rfl
            rw [e1]
            simp only [HREST.out]
            rw [List.getElem_append_right (by rw [hle]; omega)]
            congr 1; omega
          have hlt : (s[(Lib.decDigits k).length + 1 + j]).toNat < 256 := UInt8.toNat_lt _
          by_cases h48 : 48 ≤ (s[(Lib.decDigits k).length + 1 + j]).toNat
          · by_cases h57 : (s[(Lib.decDigits k).length + 1 + j]).toNat ≤ 57
            · have HN : Hid (readTo rest (j + 1) (10 * m + ((s[(Lib.decDigits k).length + 1 + j]).toNat - 48))) := by
                have := readTo_succ HRD.out hj (by rw [← hget]; exact h48) (by rw [← hget]; exact h57)
                rw [← hget] at this
                exact this
              clear hget
              go_wp2
              go_round
              case rel => exact ⟨j + 1, _, congrArg (Value.int .i64) (by omega), congrArg (Value.int .i64) (by omega), HN.out⟩
              case measure => simp only [intOf]; omega
            · have HBAD : Hid (Dt.noDot s.data.toList) := no_digit HREST.out (readTo_bad hj (by rw [← hget]; omega))
              clear hget
              go_wp2
              have e01 := stored2 z0' z1' (.int .i64 0) (.int .i64 0)
              refine bodyPost_ret (v := .tuple #[dotV 0 0, .bool false]) (by simp [results, Tryd.results20, go_sem, e01.1, e01.2]) rfl ⟨told_no 0 0 (HBAD.out), ?_⟩
              exact ((bchain Bz hB1).setCell (Nat.le_refl _) _).setCell (Nat.le_refl _) _
          · have HBAD : Hid (Dt.noDot s.data.toList) := no_digit HREST.out (readTo_bad hj (by rw [← hget]; omega))
            clear hget
            go_wp2
            have e01 := stored2 z0' z1' (.int .i64 0) (.int .i64 0)
            refine bodyPost_ret (v := .tuple #[dotV 0 0, .bool false]) (by simp [results, Tryd.results20, go_sem, e01.1, e01.2]) rfl ⟨told_no 0 0 (HBAD.out), ?_⟩
            exact ((bchain Bz hB1).setCell (Nat.le_refl _) _).setCell (Nat.le_refl _) _
        · obtain rfl : j = rest.length := by omega
          have HV : Hid (m = Dt.dval rest) := readTo_all HRD.out
          have hnl : ¬ (((Lib.decDigits k).length + 1 + rest.length : Nat) : Int) < (s.size : Int) := by omega
          have d0 : (w1.alloc (.cells #[.int .i64 (k : Int), .int .i64 (m : Int)] 23)).cell? ⟨w1.heap.size, 0, none⟩ = some (.int .i64 (k : Int)) := by simp
          have d1 : (w1.alloc (.cells #[.int .i64 (k : Int), .int .i64 (m : Int)] 23)).cell? ⟨w1.heap.size, 1, none⟩ = some (.int .i64 (m : Int)) := by simp
          have q0 : (w1.alloc (.cells #[.int .i64 (k : Int), .int .i64 (m : Int)] 23)).drew.cell? ⟨w.heap.size, 0, none⟩ = some (.int .i64 0) := keep_cell (below_new _ _).drew z0'
          have q1 : (w1.alloc (.cells #[.int .i64 (k : Int), .int .i64 (m : Int)] 23)).drew.cell? ⟨w.heap.size, 1, none⟩ = some (.int .i64 0) := keep_cell (below_new _ _).drew z1'
          have x0 : (w1.alloc (.cells #[.int .i64 (k : Int), .int .i64 (m : Int)] 23)).drew.frozen? ⟨w.heap.size, 0, none⟩ = false := ((below_new w1 (.cells #[.int .i64 (k : Int), .int .i64 (m : Int)] 23)).drew.frozen (p := ⟨w.heap.size, 0, none⟩) (World.block_lt_of_cell? _ _ z0')).trans y0'
          have x1 : (w1.alloc (.cells #[.int .i64 (k : Int), .int .i64 (m : Int)] 23)).drew.frozen? ⟨w.heap.size, 1, none⟩ = false := ((below_new w1 (.cells #[.int .i64 (k : Int), .int .i64 (m : Int)] 23)).drew.frozen (p := ⟨w.heap.size, 1, none⟩) (World.block_lt_of_cell? _ _ z1')).trans y1'
          have d0' : (w1.alloc (.cells #[.int .i64 (k : Int), .int .i64 (m : Int)] 23)).drew.cell? ⟨w1.heap.size, 0, none⟩ = some (.int .i64 (k : Int)) := d0
          have d1' : (w1.alloc (.cells #[.int .i64 (k : Int), .int .i64 (m : Int)] 23)).drew.cell? ⟨w1.heap.size, 1, none⟩ = some (.int .i64 (m : Int)) := d1
          have hne : w.heap.size ≠ w1.heap.size := by have := World.block_lt_of_cell? _ _ z0'; simp only at this; omega
          by_cases hq : Dt.right (k : Int) (m : Int) = true
          · have HR : ∀ w, Calls Tryd.prog 9 #[dotV (k : Int) (m : Int)] w fun e w' => e = .returned (.bool true) ∧ Below w.heap.size w w' := fun w => by have := refRight_any k m w; rw [hq] at this; exact this
            have HX : ∀ w, Calls Tryd.prog 11 #[dotV (k : Int) (m : Int)] w fun e w' => e = .returned (.string ⟨(Dt.text (k : Int) (m : Int)).toArray⟩) ∧ Below w.heap.size w w' := fun w => refText_any k m w (by omega) (by omega) (by omega) (by omega)
            by_cases ht : Dt.text (k : Int) (m : Int) = s.data.toList
            · have hte : (Dt.text (k : Int) (m : Int) == s.toList) = true := by rw [Lib.toList_data, beq_iff_eq]; exact ht
              have HT : Hid (toldDot s.data.toList (.returned (.tuple #[dotV k m, .bool true]))) := told_yes ⟨hq, ht⟩
              clear hq ht
              go_wp2_with fail
              go_region_held3 (fun w' => w'.cell? ⟨w1.heap.size, 0, none⟩ = some (.int .i64 (k : Int)) ∧ w'.cell? ⟨w1.heap.size, 1, none⟩ = some (.int .i64 (m : Int)))
                (first | go_keep | (refine ⟨keep_cell hb ?_, keep_cell hb ?_⟩ <;> go_keep))
                (first
                  | (go_at_call 9; refine (HR _).mono ?_; rintro e w2 ⟨rfl, hb⟩; have hb2 := hb; have q0' := keep_cell hb q0; have q1' := keep_cell hb q1; have x0' := (hb.frozen (p := ⟨w.heap.size, 0, none⟩) (World.block_lt_of_cell? _ _ q0)).trans x0; have x1' := (hb.frozen (p := ⟨w.heap.size, 1, none⟩) (World.block_lt_of_cell? _ _ q1)).trans x1)
                  | (go_at_call 11; refine (HX _).mono ?_; rintro e w3 ⟨rfl, hb⟩; have hb3 := hb; have p0' := keep_cell hb q0'; have p1' := keep_cell hb q1'; have v0' := (hb.frozen (p := ⟨w.heap.size, 0, none⟩) (World.block_lt_of_cell? _ _ q0')).trans x0'; have v1' := (hb.frozen (p := ⟨w.heap.size, 1, none⟩) (World.block_lt_of_cell? _ _ q1')).trans x1'))
              go_wp2
              have e01 := stored2 p0' p1' (.int .i64 (k : Int)) (.int .i64 (m : Int))
              refine bodyPost_ret (v := .tuple #[dotV k m, .bool true]) (by simp [results, Tryd.results20, go_sem, e01.1, e01.2]) rfl ⟨HT.out, ?_⟩
              exact ((bchain (bchain (bchain (bchain Bz hB1) (below_new _ _).drew) hb2) hb3).setCell (Nat.le_refl _) _).setCell (Nat.le_refl _) _
            · have hte : (Dt.text (k : Int) (m : Int) == s.toList) = false := by rw [Lib.toList_data, beq_eq_false_iff_ne]; exact ht
              have HT : Hid (toldDot s.data.toList (.returned (.tuple #[dotV k m, .bool false]))) := told_no _ _ (one_dot HREST.out (by rw [← HV.out]; exact fun h => ht h.2))
              clear hq ht
              go_wp2_with fail
              go_region_held3 (fun w' => w'.cell? ⟨w1.heap.size, 0, none⟩ = some (.int .i64 (k : Int)) ∧ w'.cell? ⟨w1.heap.size, 1, none⟩ = some (.int .i64 (m : Int)))
                (first | go_keep | (refine ⟨keep_cell hb ?_, keep_cell hb ?_⟩ <;> go_keep))
                (first
                  | (go_at_call 9; refine (HR _).mono ?_; rintro e w2 ⟨rfl, hb⟩; have hb2 := hb; have q0' := keep_cell hb q0; have q1' := keep_cell hb q1; have x0' := (hb.frozen (p := ⟨w.heap.size, 0, none⟩) (World.block_lt_of_cell? _ _ q0)).trans x0; have x1' := (hb.frozen (p := ⟨w.heap.size, 1, none⟩) (World.block_lt_of_cell? _ _ q1)).trans x1)
                  | (go_at_call 11; refine (HX _).mono ?_; rintro e w3 ⟨rfl, hb⟩; have hb3 := hb; have p0' := keep_cell hb q0'; have p1' := keep_cell hb q1'; have v0' := (hb.frozen (p := ⟨w.heap.size, 0, none⟩) (World.block_lt_of_cell? _ _ q0')).trans x0'; have v1' := (hb.frozen (p := ⟨w.heap.size, 1, none⟩) (World.block_lt_of_cell? _ _ q1')).trans x1'))
              go_wp2
              have e01 := stored2 p0' p1' (.int .i64 (k : Int)) (.int .i64 (m : Int))
              refine bodyPost_ret (v := .tuple #[dotV k m, .bool false]) (by simp [results, Tryd.results20, go_sem, e01.1, e01.2]) rfl ⟨HT.out, ?_⟩
              exact ((bchain (bchain (bchain (bchain Bz hB1) (below_new _ _).drew) hb2) hb3).setCell (Nat.le_refl _) _).setCell (Nat.le_refl _) _
          · have hq' : Dt.right (k : Int) (m : Int) = false := by simpa using hq
            have HR : ∀ w, Calls Tryd.prog 9 #[dotV (k : Int) (m : Int)] w fun e w' => e = .returned (.bool false) ∧ Below w.heap.size w w' := fun w => by have := refRight_any k m w; rw [hq'] at this; exact this
            have HT : Hid (toldDot s.data.toList (.returned (.tuple #[dotV k m, .bool false]))) := told_no _ _ (one_dot HREST.out (by rw [← HV.out]; exact fun h => hq h.1))
            clear hq hq'
            go_wp2_with fail
            refine wp_region_held_drew (S := fun w' => w'.cell? ⟨w1.heap.size, 0, none⟩ = some (.int .i64 (k : Int)) ∧ w'.cell? ⟨w1.heap.size, 1, none⟩ = some (.int .i64 (m : Int))) (by kernel_rfl) ⟨d0', d1'⟩ (fun hH => ?_)
            refine wpAnyH_take (i := 0) (v := dotV k m) rfl (by kernel_rfl) (by kernel_rfl) (by kernel_rfl) (fun _ _ _ h => h) (Or.inl ⟨by rfl, ?_⟩) hH ?_
            · intro W hW
              obtain ⟨hW0, hW1⟩ := hW
              go_simp
            simp only [Act.put]
            refine wpAnyH_take (i := 1) (v := dotV k m) rfl (by kernel_rfl) (by kernel_rfl) (by kernel_rfl) (fun _ _ _ h => h) (Or.inl ⟨by rfl, ?_⟩) hH ?_
            · intro W hW
              obtain ⟨hW0, hW1⟩ := hW
              go_simp
            simp only [Act.put]
            refine wpAnyH_ready (rs := [2]) (by kernel_rfl) (by simp) ?_
            refine AllReadyH.cons rfl (fun K hK => ?_) AllReadyH.nil
            go_simp
            refine (HR _).mono ?_
            rintro e w2 ⟨rfl, hb⟩
            simp only []
            refine hK.out _ _ ⟨keep_cell hb d0', keep_cell hb d1'⟩ (fun hH2 => ?_)
            have q0' := keep_cell hb q0
            have q1' := keep_cell hb q1
            have x0' := (hb.frozen (p := ⟨w.heap.size, 0, none⟩) (World.block_lt_of_cell? _ _ q0)).trans x0
            have x1' := (hb.frozen (p := ⟨w.heap.size, 1, none⟩) (World.block_lt_of_cell? _ _ q1)).trans x1
            refine wpAnyH_take (i := 3) (v := .bool false) rfl (by kernel_rfl) (by kernel_rfl) (by kernel_rfl) (fun _ _ _ h => h) (Or.inl ⟨by rfl, fun W hW => by go_simp⟩) hH2 ?_
            simp only [Act.put]
            refine wpAnyH_take (i := 4) (v := undef) rfl (by kernel_rfl) (by kernel_rfl) (by kernel_rfl) (fun _ _ _ h => h) (Or.inr ⟨by rfl, rfl⟩) hH2 ?_
            simp only [Act.put]
            refine wpAnyH_take (i := 5) (v := undef) rfl (by kernel_rfl) (by kernel_rfl) (by kernel_rfl) (fun _ _ _ h => h) (Or.inr ⟨by rfl, rfl⟩) hH2 ?_
            simp only [Act.put]
            refine wpAnyH_take (i := 6) (v := undef) rfl (by kernel_rfl) (by kernel_rfl) (by kernel_rfl) (fun _ _ _ h => h) (Or.inr ⟨by rfl, rfl⟩) hH2 ?_
            simp only [Act.put]
            refine wpAnyH_take (i := 7) (v := undef) rfl (by kernel_rfl) (by kernel_rfl) (by kernel_rfl) (fun _ _ _ h => h) (Or.inr ⟨by rfl, rfl⟩) hH2 ?_
            simp only [Act.put]
            refine wpAnyH_take (i := 8) (v := .bool false) rfl (by kernel_rfl) (by kernel_rfl) (by kernel_rfl) (fun _ _ _ h => h) (Or.inl ⟨by rfl, fun W hW => by go_simp⟩) hH2 ?_
            simp only [Act.put]
            refine wpAnyH_ready (rs := [9]) (by kernel_rfl) (by simp) ?_
            refine AllReadyH.cons rfl (fun K2 hK2 => ?_) AllReadyH.nil
            go_simp
            refine hK2.out _ _ ⟨(World.cell?_setCell_far _ _ _ _ hne).trans ((World.cell?_setCell_far _ _ _ _ hne).trans hH2.1), (World.cell?_setCell_far _ _ _ _ hne).trans ((World.cell?_setCell_far _ _ _ _ hne).trans hH2.2)⟩ (fun hH3 => ?_)
            refine wpAnyH_ready (rs := [10]) (by kernel_rfl) (by simp) ?_
            refine AllReadyH.cons rfl (fun K3 hK3 => ?_) AllReadyH.nil
            go_simp
            refine hK3.out _ _ hH3 (fun _ => ?_)
            refine wpAnyH_done (by kernel_rfl) ?_ _
            go_wp2
            have e01 := stored2 q0' q1' (.int .i64 (k : Int)) (.int .i64 (m : Int))
            refine bodyPost_ret (v := .tuple #[dotV k m, .bool false]) (by simp [results, Tryd.results20, go_sem, e01.1, e01.2]) rfl ⟨HT.out, ?_⟩
            exact ((bchain (bchain (bchain Bz hB1) (below_new _ _).drew) hb).setCell (Nat.le_refl _) _).setCell (Nat.le_refl _) _
end Go.Proofs.YtifmmfceihhhlaaDoor
