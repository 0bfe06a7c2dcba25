/- The walks of the four laws of layer 3. -/
import Derived.Test.YtomglcdkkoiofaaSplits
namespace Go.Proofs.Ytomglcdkkoiofaa
open Go.RowKit

theorem aw_split (w : World) : Calls Try.prog 14 #[.string ⟨#[120, 92, 92, 121, 47, 122]⟩] w fun e w' => ∃ v, e = .returned (.tuple #[v, .bool true]) ∧ strsAt w' v [[120, 92, 121], [122]] ∧ Below w.heap.size w w' := by
  have h := split_any ⟨#[120, 92, 92, 121, 47, 122]⟩ w (by decide)
  have e : Nm.split (⟨#[120, 92, 92, 121, 47, 122]⟩ : ByteArray).data.toList = some [[120, 92, 121], [122]] := by decide
  rw [(splitL_some e).1, (splitL_some e).2] at h
  exact h
theorem aw_quote (w : World) : Calls Try.prog 16 #[.string ⟨#[97, 47, 98]⟩] w fun e w' => e = .returned (.string ⟨#[97, 92, 47, 98]⟩) ∧ Below w.heap.size w w' := by
  have h := quote_any ⟨#[97, 47, 98]⟩ w (by decide)
  have e : Nm.quote (⟨#[97, 47, 98]⟩ : ByteArray).data.toList = [97, 92, 47, 98] := by decide
  rw [e] at h
  exact h
theorem aw_right (w : World) : Calls Try.prog 10 #[.string ⟨#[107, 101, 121]⟩] w fun e w' => e = .returned (.bool true) ∧ Below w.heap.size w w' := by
  have h := right_any ⟨#[107, 101, 121]⟩ w
  have e : Nm.right (⟨#[107, 101, 121]⟩ : ByteArray).data.toList = true := by kernel_rfl
  rw [e] at h
  exact h
theorem aw_not (w : World) : Calls Try.prog 10 #[.string ⟨#[]⟩] w fun e w' => e = .returned (.bool false) ∧ Below w.heap.size w w' := by
  have h := right_any ⟨#[]⟩ w
  have e : Nm.right (⟨#[]⟩ : ByteArray).data.toList = false := by kernel_rfl
  rw [e] at h
  exact h
theorem strs_lit (w : World) (a b : List UInt8) : strsAt (w.alloc (.cells #[.string ⟨a.toArray⟩, .string ⟨b.toArray⟩] 9)) (.slice (some ⟨w.heap.size, 0, none⟩) 2 2) [a, b] := by
  refine ⟨_, 2, rfl, fun k hk => ⟨_, rfl, ?_⟩⟩
  have hadd : (⟨w.heap.size, 0, none⟩ : Addr).add k = ⟨w.heap.size, k, none⟩ := by unfold Addr.add; split <;> simp_all
  rw [hadd, World.cell?_alloc_at _ _ _ _ rfl]
  match k, hk with
  | 0, _ => rfl
  | 1, _ => rfl
  | k + 2, h => simp at h; omega

theorem bchain {a b c : World} (h1 : Below a.heap.size a b) (h2 : Below b.heap.size b c) : Below a.heap.size a c := h1.trans (h2.mono h1.size)

set_option maxRecDepth 20000 in
set_option maxHeartbeats 2000000 in
theorem awake_any (w : World) : Calls Try.prog 7 #[] w fun e w' => e = .returned (.bool true) ∧ Below w.heap.size w w' := by
  go_enter Try.func7, Try.ntmps7
  go_wp2_with fail
  refine (aw_split _).mono ?_
  rintro e W1 ⟨v, rfl, h1, b1⟩
  have hA := (Below.refl W1.heap.size W1).alloc (Nat.le_refl _) (.cells #[.string ⟨#[120, 92, 121]⟩, .string ⟨#[122]⟩] 9)
  have h1' := strsAt_below h1 hA (Nat.le_refl _)
  have h2' := strs_lit W1 [120, 92, 121] [122]
  go_wp2_with fail
  refine (same_any _ _ _ _ _ (by decide) h1' h2').mono ?_
  rintro e W2 ⟨rfl, b2⟩
  rw [show decide (([[120, 92, 121], [122]] : List (List UInt8)) = [[120, 92, 121], [122]]) = true from decide_eq_true rfl]
  go_wp2_with fail
  refine (aw_quote _).mono ?_
  rintro e W3 ⟨rfl, b3⟩
  go_wp2_with fail
  refine (aw_right _).mono ?_
  rintro e W4 ⟨rfl, b4⟩
  go_wp2_with fail
  refine (aw_not _).mono ?_
  rintro e W5 ⟨rfl, b5⟩
  go_wp2
  go_ret
  exact ⟨rfl, bchain (bchain (bchain (bchain (bchain b1 hA) b2) b3) b4) b5⟩

/-! ### Rows in memory -/
/-- A slice in memory reads as these cells. -/
def rowAt (w : World) (v : Value) (xs : List Value) : Prop := ∃ ao cap, v = .slice ao xs.length cap ∧ ∀ k x, xs[k]? = some x → ∃ ad, ao = some ad ∧ w.cell? (ad.add k) = some x
theorem rowAt_own {w : World} {B : Nat} {e : TypeId} {v : Value} {n : Nat} {xs : List Value} (h : w.ownsRow B e 1 v n xs) (hn : n = xs.length) : rowAt w v xs := by
  subst hn
  rcases h.2 with ⟨rfl, h0⟩ | ⟨g, cap, cur, rfl, r⟩
  · obtain rfl : xs = [] := List.eq_nil_of_length_eq_zero h0
    exact ⟨none, 0, rfl, fun k x hx => by simp at hx⟩
  · exact ⟨_, cap, rfl, fun k x hx => ⟨_, rfl, h.cells rfl k _ hx⟩⟩
theorem rowAt_below {w w' : World} {B : Nat} {v : Value} {xs : List Value} (h : rowAt w v xs) (hb : Below B w w') (hB : w.heap.size ≤ B) : rowAt w' v xs := by
  obtain ⟨ao, cap, hv, hc⟩ := h
  refine ⟨ao, cap, hv, fun k x hx => ?_⟩
  obtain ⟨ad, h1, h2⟩ := hc k x hx
  exact ⟨ad, h1, (hb.cell (Nat.lt_of_lt_of_le (World.block_lt_of_cell? _ _ h2) hB)).trans h2⟩

set_option maxRecDepth 20000 in
set_option maxHeartbeats 4000000 in
theorem nameTells_walk (s : ByteArray) (w : World) (hs : s.size ≤ maxLen) :
    Calls Try.prog 3 #[.string s] w fun e w' => e = .returned (.bool true) ∧ Below w.heap.size w w' := by
  unfold maxLen at hs
  by_cases h1 : 500 < s.size
  · go_enter Try.func3, Try.ntmps3
    go_wp2_with fail
    refine (awake_any _).mono ?_
    rintro e w' ⟨rfl, hb⟩
    go_wp2
    go_ret
    exact ⟨rfl, hb⟩
  have hlen := runesL_len s
  have hle := runesL_le s.data.toList
  go_enter Try.func3, Try.ntmps3
  go_wp2_with fail
  refine (runes_any s _ (by omega)).mono ?_
  rintro e W1 ⟨v1, rfl, o1, b1⟩
  go_wp2_with fail
  refine (refRunes_any s _ (by omega)).mono ?_
  rintro e W2 ⟨v2, rfl, o2, b2⟩
  have r1 := rowAt_below (rowAt_own o1 (by rw [cells32_length])) b2 (Nat.le_refl _)
  have r2 := rowAt_own o2 (by rw [cells64_length])
  clear o1 o2
  have hb := bchain b1 b2
  clear b1 b2
  generalize runesL s.data.toList = rs at *
  generalize runesOk s.data.toList = ok at *
  obtain ⟨ao, ca, rfl, hca⟩ := r1
  obtain ⟨bo, cb, rfl, hcb⟩ := r2
  rw [cells32_length, cells64_length]
  have hbn : (ok != ok) = false := by cases ok <;> rfl
  go_wp2
  go_loopw [7] (fun i wr => ∃ k : Nat, k ≤ rs.length ∧ i = .int .i64 k ∧ wr.heap = W2.heap ∧ Below w.heap.size w wr) (fun i _ => rs.length - (intOf i).toNat)
  case atStart => exact ⟨0, by omega, rfl, rfl, hb⟩
  case round =>
    obtain ⟨k, hk, rfl, hheap, hbw⟩ := hrel
    by_cases hlt : k < rs.length
    · obtain ⟨ad, rfl, hA⟩ := hca k _ (cells32_at hlt)
      obtain ⟨bd, rfl, hB⟩ := hcb k _ (cells64_at hlt)
      have hA2 : wr.cell? (ad.add k) = some (.int .i32 (rs[k] : Int)) := (World.cell?_of_block (by rw [hheap])).trans hA
      have hB2 : wr.cell? (bd.add k) = some (.int .i64 (rs[k] : Int)) := (World.cell?_of_block (by rw [hheap])).trans hB
      have hbd := hle k hlt
      clear hca hcb hA hB hle
      generalize rs[k] = c at *
      go_wp2
      go_region
      all_goals
        go_wp2
        go_roundw
        case rel => exact ⟨k + 1, by omega, by go_num, hheap, hbw.drew⟩
        case measure => simp [intOf]; omega
    · clear hca hcb hle
      go_wp2_with fail
      refine (right_any s _).mono ?_
      rintro e W3 ⟨rfl, b3⟩
      go_wp2_with fail
      refine (refRight_any s _ (by omega)).mono ?_
      rintro e W4 ⟨rfl, b4⟩
      go_wp2_with fail
      refine (clean_any s _ (by omega)).mono ?_
      rintro e W5 ⟨rfl, b5⟩
      go_wp2_with fail
      refine (refClean_any s _ (by omega)).mono ?_
      rintro e W6 ⟨rfl, rfl⟩
      go_wp2_with fail
      refine (awake_any _).mono ?_
      rintro e W7 ⟨rfl, b7⟩
      go_wp2
      go_ret
      exact ⟨rfl, bchain (bchain (bchain (bchain hbw b3) b4) b5) b7⟩

theorem sp_len (l : List UInt8) : ∀ (esc : Bool) (outs : List (List UInt8)) (word : List UInt8) (r : List (List UInt8)), Nm.sp l esc outs word = some r → r.length ≤ outs.length + 1 + l.length := by
  induction l with
  | nil =>
    intro esc outs word r h
    cases esc with
    | true => cases h
    | false =>
      rw [Nm.sp] at h
      injection h with h
      subst h
      simp
  | cons b l ih =>
    intro esc outs word r h
    cases esc with
    | true =>
      rw [Nm.sp] at h
      split at h
      · have := ih _ _ _ _ h
        simp
        omega
      · cases h
    | false =>
      rw [Nm.sp] at h
      split at h
      · have := ih _ _ _ _ h
        simp
        omega
      · split at h
        · have := ih _ _ _ _ h
          simp at this ⊢
          omega
        · have := ih _ _ _ _ h
          simp
          omega
theorem splitL_len (s : ByteArray) : (splitL s.data.toList).length ≤ s.size + 1 := by
  cases hr : Nm.split s.data.toList with
  | none => rw [(splitL_none hr).1]; simp
  | some r =>
    rw [(splitL_some hr).1]
    have := sp_len _ _ _ _ _ hr
    rw [size_len] at this
    simp at this
    omega

/-! ### Cleaned again -/
theorem cgo_len (m : Nat) : ∀ (n : Nat) (l : List UInt8), l.length ≤ m → (Nm.cgo n l).length ≤ l.length := by
  induction m with
  | zero =>
    intro n l h
    obtain rfl : l = [] := List.eq_nil_of_length_eq_zero (by omega)
    rw [Nm.cgo_nil]
    exact Nat.le_refl _
  | succ m ih =>
    intro n l h
    by_cases hne : l = []
    · subst hne; rw [Nm.cgo_nil]; exact Nat.le_refl _
    · have h3 := Nm.rest_lt hne
      by_cases h24 : n = 24
      · subst h24; rw [Nm.cgo_full]; simp
      · cases hm : Nm.may (Lib.decodeL l).1 with
        | false =>
          rw [Nm.cgo_skip hne hm]
          have := ih n (Nm.rest l) (by omega)
          omega
        | true =>
          rw [Nm.cgo_keep hne h24 hm, List.length_append]
          have h1 := ih (n + 1) (Nm.rest l) (by omega)
          have h2 := Lib.decodeL_le l hne
          have h4 : (Nm.rest l).length = l.length - (Lib.decodeL l).2 := by rw [Nm.rest, List.length_drop]
          rw [List.length_take]
          omega
theorem clean_len (l : List UInt8) : (Nm.clean l).length ≤ l.length + 1 := by
  have := cgo_len l.length 0 l (Nat.le_refl _)
  unfold Nm.clean
  split
  · simp
  · omega

set_option maxRecDepth 20000 in
set_option maxHeartbeats 4000000 in
theorem nameCleans_walk (s : ByteArray) (w : World) (hs : s.size ≤ maxLen) :
    Calls Try.prog 4 #[.string s] w fun e w' => e = .returned (.bool true) ∧ Below w.heap.size w w' := by
  unfold maxLen at hs
  by_cases h1 : 500 < s.size
  · go_enter Try.func4, Try.ntmps4
    go_wp2_with fail
    refine (awake_any _).mono ?_
    rintro e w' ⟨rfl, hb⟩
    go_wp2
    go_ret
    exact ⟨rfl, hb⟩
  have hcl := clean_len s.data.toList
  rw [size_len] at hcl
  have HC := fun w0 => clean_any s w0 (by omega)
  have HC2 := fun w0 => clean_any ⟨(Nm.clean s.data.toList).toArray⟩ w0 (by simp [ByteArray.size]; omega)
  have HR1 := fun w0 => right_any ⟨(Nm.clean s.data.toList).toArray⟩ w0
  have HR2 := fun w0 => right_any s w0
  simp only [Nm.clean_clean, Nm.right_clean] at HC2 HR1
  rw [Nm.right_iff] at HR2
  by_cases he : Nm.clean s.data.toList = s.data.toList
  · rw [decide_eq_true he] at HR2
    have e2 : (⟨(Nm.clean s.data.toList).toArray⟩ : ByteArray) = s := by
      rw [he]
    rw [e2] at HC HC2 HR1
    go_enter Try.func4, Try.ntmps4
    go_wp2_with fail
    refine (HC _).mono ?_
    rintro e W1 ⟨rfl, b1⟩
    go_wp2_with fail
    refine (HR1 _).mono ?_
    rintro e W2 ⟨rfl, b2⟩
    go_wp2_with fail
    refine (HC2 _).mono ?_
    rintro e W3 ⟨rfl, b3⟩
    go_wp2_with fail
    refine (HR2 _).mono ?_
    rintro e W4 ⟨rfl, b4⟩
    go_wp2_with fail
    refine (awake_any _).mono ?_
    rintro e W5 ⟨rfl, b5⟩
    go_wp2
    go_ret
    exact ⟨rfl, bchain (bchain (bchain (bchain b1 b2) b3) b4) b5⟩
  · rw [decide_eq_false he] at HR2
    have hbe : (Nm.clean s.data.toList == s.data.toList) = false := beq_eq_false_iff_ne.2 he
    have hbs : (Nm.clean s.data.toList == s.toList) = false := by rw [Lib.toList_data]; exact hbe
    generalize Nm.clean s.data.toList = c at *
    go_enter Try.func4, Try.ntmps4
    go_wp2_with fail
    refine (HC _).mono ?_
    rintro e W1 ⟨rfl, b1⟩
    go_wp2_with fail
    refine (HR1 _).mono ?_
    rintro e W2 ⟨rfl, b2⟩
    go_wp2_with fail
    refine (HC2 _).mono ?_
    rintro e W3 ⟨rfl, b3⟩
    go_wp2_with fail
    refine (HR2 _).mono ?_
    rintro e W4 ⟨rfl, b4⟩
    go_wp2_with fail
    refine (awake_any _).mono ?_
    rintro e W5 ⟨rfl, b5⟩
    go_wp2
    go_ret
    exact ⟨rfl, bchain (bchain (bchain (bchain b1 b2) b3) b4) b5⟩

set_option maxRecDepth 20000 in
set_option maxHeartbeats 4000000 in
theorem nameSplits_walk (s : ByteArray) (w : World) (hs : s.size ≤ maxLen) :
    Calls Try.prog 5 #[.string s] w fun e w' => e = .returned (.bool true) ∧ Below w.heap.size w w' := by
  unfold maxLen at hs
  by_cases h1 : 500 < s.size
  · go_enter Try.func5, Try.ntmps5
    go_wp2_with fail
    refine (awake_any _).mono ?_
    rintro e w' ⟨rfl, hb⟩
    go_wp2
    go_ret
    exact ⟨rfl, hb⟩
  have hsl := splitL_len s
  go_enter Try.func5, Try.ntmps5
  go_wp2_with fail
  refine (split_any s _ (by omega)).mono ?_
  rintro e W1 ⟨v1, rfl, r1, b1⟩
  go_wp2_with fail
  refine (refSplit_any s _ (by omega)).mono ?_
  rintro e W2 ⟨v2, rfl, r2, b2⟩
  have r1' := strsAt_below r1 b2 (Nat.le_refl _)
  clear r1
  generalize splitL s.data.toList = xs at *
  generalize splitOk s.data.toList = ok at *
  go_wp2_with fail
  refine (quote_any s _ (by omega)).mono ?_
  rintro e W3 ⟨rfl, b3⟩
  go_wp2_with fail
  refine (refQuote_any s _ (by omega)).mono ?_
  rintro e W4 ⟨rfl, rfl⟩
  have r1'' := strsAt_below r1' b3 (Nat.le_refl _)
  have r2'' := strsAt_below r2 b3 (Nat.le_refl _)
  have hbn : (ok == ok) = true := by cases ok <;> rfl
  go_wp2_with fail
  refine (same_any _ _ _ _ _ (by omega) r1'' r2'').mono ?_
  rintro e W5 ⟨rfl, b5⟩
  rw [decide_eq_true rfl]
  go_wp2_with fail
  refine (awake_any _).mono ?_
  rintro e W6 ⟨rfl, b6⟩
  go_wp2
  go_ret
  exact ⟨rfl, bchain (bchain (bchain (bchain b1 b2) b3) b5) b6⟩

/-! ### Joined, and split again -/
theorem joined_len (l : List (List UInt8)) (h : ∀ x ∈ l, x.length ≤ 100) : (Nm.joined l).length ≤ 201 * l.length := by
  induction l with
  | nil => simp [Nm.joined]
  | cons a r ih =>
    have h1 := Nm.quote_length a
    have h2 := h a (by simp)
    cases r with
    | nil =>
      simp only [Nm.joined, List.length_cons, List.length_nil]
      omega
    | cons b r =>
      have h3 := ih (fun x hx => h x (by simp [hx]))
      rw [Nm.joined_two, List.length_append, List.length_cons]
      simp only [List.length_cons] at h3 ⊢
      omega
theorem joined_first {xs : List (List UInt8)} (h : 0 < xs.length) : Nm.joined (xs.take 1) = Nm.quote xs[0] := by
  cases xs with
  | nil => simp at h
  | cons a r => simp [Nm.joined]
theorem joined_next {xs : List (List UInt8)} {k : Nat} (h : k < xs.length) (hk : 0 < k) : Nm.joined (xs.take (k + 1)) = Nm.joined (xs.take k) ++ 47 :: Nm.quote xs[k] := by
  rw [List.take_succ_eq_append_getElem h, Nm.joined_snoc]
  intro e
  have := congrArg List.length e
  rw [List.length_take, Nat.min_eq_left (by omega), List.length_nil] at this
  omega
/-- So many of the texts are of at most 100 bytes. -/
def shortTo (xs : List (List UInt8)) (k : Nat) : Prop := ∀ x ∈ xs.take k, x.length ≤ 100
theorem shortTo_zero (xs : List (List UInt8)) : shortTo xs 0 := by intro x hx; simp at hx
theorem shortTo_step {xs : List (List UInt8)} {k : Nat} (h : shortTo xs k) (hk : k < xs.length) (hx : xs[k].length ≤ 100) : shortTo xs (k + 1) := by
  intro x hm
  rw [List.take_succ_eq_append_getElem hk] at hm
  rcases List.mem_append.1 hm with h1 | h1
  · exact h x h1
  · simp at h1
    subst h1
    exact hx
theorem app_slash (a b : List UInt8) : (⟨a.toArray⟩ : ByteArray) ++ ⟨#[47]⟩ ++ ⟨b.toArray⟩ = ⟨(a ++ 47 :: b).toArray⟩ := by
  apply bytes_of
  rw [ByteArray.data_append, ByteArray.data_append, Array.toList_append, Array.toList_append]
  simp
theorem app_empty (b : List UInt8) : (⟨#[]⟩ : ByteArray) ++ ⟨b.toArray⟩ = ⟨b.toArray⟩ := by
  apply bytes_of
  rw [ByteArray.data_append, Array.toList_append]
  simp
/-- The text so far. -/
def joinV (xs : List (List UInt8)) (k : Nat) : Value := .string ⟨(Nm.joined (xs.take k)).toArray⟩

set_option maxRecDepth 20000 in
set_option maxHeartbeats 4000000 in
theorem nameBack_walk (v : Value) (xs : List (List UInt8)) (w : World) (hn : xs.length ≤ maxLen) (hz : ∀ x ∈ xs, x.length ≤ maxLen) (hv : strsAt w v xs) :
    Calls Try.prog 6 #[v] w fun e w' => e = .returned (.bool true) ∧ Below w.heap.size w w' := by
  unfold maxLen at hn hz
  have hv0 := hv
  obtain ⟨ao, cap, rfl, hc⟩ := hv
  by_cases h1 : xs.length = 0
  · clear hc hv0 hz
    go_enter Try.func6, Try.ntmps6
    go_wp2_with fail
    refine (awake_any _).mono ?_
    rintro e w' ⟨rfl, hb⟩
    go_wp2
    go_ret
    exact ⟨rfl, hb⟩
  by_cases h2 : 12 < xs.length
  · clear hc hv0 hz
    have h1' : ((xs.length : Int) == 0) = false := beq_eq_false_iff_ne.2 (by omega)
    go_enter Try.func6, Try.ntmps6
    go_wp2_with fail
    refine (awake_any _).mono ?_
    rintro e w' ⟨rfl, hb⟩
    go_wp2
    go_ret
    exact ⟨rfl, hb⟩
  have h1' : ((xs.length : Int) == 0) = false := beq_eq_false_iff_ne.2 (by omega)
  have h2' : ¬ 12 < (xs.length : Int) := by omega
  go_enter Try.func6, Try.ntmps6
  go_wp2_with fail
  go_loopw [3, 4] (fun x i wr => ∃ k : Nat, k ≤ xs.length ∧ i = .int .i64 k ∧ x = joinV xs k ∧ shortTo xs k ∧ Below w.heap.size w wr) (fun _ i _ => xs.length - (intOf i).toNat)
  case atStart => exact ⟨0, by omega, rfl, rfl, shortTo_zero _, Below.refl _ w⟩
  case round =>
    obtain ⟨k, hk, rfl, rfl, hS, hbw⟩ := hrel
    have hjl : (Nm.joined (xs.take k)).length ≤ 2412 := by
      have h := joined_len (xs.take k) hS
      rw [List.length_take] at h
      omega
    have hws := hbw.size
    by_cases hlt : k < xs.length
    · obtain ⟨ad, rfl, hA⟩ := hc k hlt
      have hA2 : wr.cell? (ad.add k) = some (.string ⟨(xs[k]).toArray⟩) := (hbw.cell (World.block_lt_of_cell? _ _ hA)).trans hA
      have hzk := hz _ (List.getElem_mem hlt)
      by_cases hx : 100 < xs[k].length
      · clear hc hv0 hz hA
        generalize xs[k] = x at *
        go_wp2_with fail
        refine (awake_any _).mono ?_
        rintro e w' ⟨rfl, hb⟩
        go_wp2
        go_ret
        exact ⟨rfl, bchain hbw hb⟩
      · have HS := shortTo_step hS hlt (by omega)
        have HQ := fun w0 => quote_any ⟨(xs[k]).toArray⟩ w0 (by simp [ByteArray.size]; omega)
        have hql := Nm.quote_length xs[k]
        by_cases h0 : k = 0
        · subst h0
          have HJ : Hid (joinV xs (0 + 1) = .string ((⟨#[]⟩ : ByteArray) ++ ⟨(Nm.quote xs[0]).toArray⟩)) := by
            have h : joinV xs (0 + 1) = .string ((⟨#[]⟩ : ByteArray) ++ ⟨(Nm.quote xs[0]).toArray⟩) := by rw [app_empty, joinV, joined_first hlt]
            exact h
          have hj0 : joinV xs 0 = .string ⟨#[]⟩ := rfl
          rw [hj0]
          have hA0 : wr.cell? ad = some (.string ⟨(xs[0]).toArray⟩) := by
            have e : ad.add 0 = ad := by simp [Addr.add]
            rw [e] at hA2
            exact hA2
          clear hc hv0 hz hA
          generalize xs[0] = x at *
          simp only at HQ
          go_wp2_with fail
          refine (HQ _).mono ?_
          rintro e W1 ⟨rfl, b1⟩
          go_wp2
          go_roundw
          case rel => exact ⟨0 + 1, by omega, by go_num, by rw [HJ.out], HS, bchain hbw b1⟩
          case measure => simp [intOf]; omega
        · have HJ : Hid (joinV xs (k + 1) = .string ((⟨(Nm.joined (xs.take k)).toArray⟩ : ByteArray) ++ ⟨#[47]⟩ ++ ⟨(Nm.quote xs[k]).toArray⟩)) := by
            have h : joinV xs (k + 1) = .string ((⟨(Nm.joined (xs.take k)).toArray⟩ : ByteArray) ++ ⟨#[47]⟩ ++ ⟨(Nm.quote xs[k]).toArray⟩) := by rw [app_slash, joinV, joined_next hlt (by omega)]
            exact h
          have hj0 : joinV xs k = .string ⟨(Nm.joined (xs.take k)).toArray⟩ := rfl
          rw [hj0]
          clear hc hv0 hz hA
          have hk0 : 0 < (k : Int) := by omega
          generalize xs[k] = x at *
          generalize Nm.joined (xs.take k) = j at *
          simp only at HQ
          go_wp2_with fail
          refine (HQ _).mono ?_
          rintro e W1 ⟨rfl, b1⟩
          go_wp2
          go_roundw
          case rel => exact ⟨k + 1, by omega, by go_num, by rw [HJ.out], HS, bchain hbw b1⟩
          case measure => simp [intOf]; omega
    · obtain rfl : k = xs.length := by omega
      have hj0 : joinV xs xs.length = .string ⟨(Nm.joined xs).toArray⟩ := by rw [joinV, List.take_length]
      rw [hj0]
      rw [List.take_length] at hjl
      have hne : xs ≠ [] := by intro e; rw [e] at h1; exact h1 rfl
      have HP := fun w0 => split_any ⟨(Nm.joined xs).toArray⟩ w0 (by simp [ByteArray.size]; omega)
      have e1 := splitL_some (Nm.split_joined xs hne)
      simp only [e1.1, e1.2] at HP
      have r0 := strsAt_below hv0 hbw (Nat.le_refl _)
      clear hc hv0 hz e1
      generalize Nm.joined xs = j at *
      go_wp2_with fail
      refine (HP _).mono ?_
      rintro e W1 ⟨v1, rfl, r1, b1⟩
      have r0' := strsAt_below r0 b1 (Nat.le_refl _)
      go_wp2_with fail
      refine (same_any _ _ _ _ _ (by omega) r0' r1).mono ?_
      rintro e W2 ⟨rfl, b2⟩
      rw [decide_eq_true rfl]
      go_wp2_with fail
      refine (awake_any _).mono ?_
      rintro e W3 ⟨rfl, b3⟩
      go_wp2
      go_ret
      exact ⟨rfl, bchain (bchain (bchain hbw b1) b2) b3⟩

end Go.Proofs.Ytomglcdkkoiofaa
