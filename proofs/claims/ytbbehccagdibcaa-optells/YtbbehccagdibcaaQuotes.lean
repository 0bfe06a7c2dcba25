/- The walks of 'Same', the two 'Quote'. -/
import Derived.Test.YtbbehccagdibcaaNames
namespace Go.Proofs.Ytbbehccagdibcaa.U
open Go.RowKit

/-! ### Texts in memory -/
def cellsS (l : List (List UInt8)) : List Value := l.map fun x => .string ⟨x.toArray⟩
theorem cellsS_snoc (l : List (List UInt8)) (x : List UInt8) : cellsS l ++ [.string ⟨x.toArray⟩] = cellsS (l ++ [x]) := by simp [cellsS]
theorem cellsS_length (l : List (List UInt8)) : (cellsS l).length = l.length := by simp [cellsS]
theorem cellsS_at {l : List (List UInt8)} {k : Nat} (h : k < l.length) : (cellsS l)[k]? = some (.string ⟨(l[k]).toArray⟩) := by simp [cellsS, List.getElem?_eq_getElem h]
/-- A slice in memory reads as these texts. -/
def strsAt (w : World) (v : Value) (xs : List (List UInt8)) : Prop := ∃ ao cap, v = .slice ao xs.length cap ∧ xs.length ≤ cap ∧ ∀ k (h : k < xs.length), ∃ ad, ao = some ad ∧ w.cell? (ad.add k) = some (.string ⟨(xs[k]).toArray⟩)
theorem strsAt_nil (w : World) : strsAt w (.slice none 0 0) [] := ⟨none, 0, rfl, Nat.le_refl _, fun k h => by simp at h⟩
theorem strsAt_own {w : World} {B : Nat} {v : Value} {xs : List (List UInt8)} (h : w.ownsRow B 9 1 v xs.length (cellsS xs)) : strsAt w v xs := by
  rcases h.2 with ⟨rfl, h0⟩ | ⟨g, cap, cur, rfl, r⟩
  · obtain rfl : xs = [] := List.eq_nil_of_length_eq_zero h0
    exact strsAt_nil w
  · exact ⟨_, cap, rfl, r.2.2.1, fun k hk => ⟨_, rfl, h.cells rfl k _ (cellsS_at hk)⟩⟩
theorem strsAt_below {w w' : World} {B : Nat} {v : Value} {xs : List (List UInt8)} (h : strsAt w v xs) (hb : Below B w w') (hB : w.heap.size ≤ B) : strsAt w' v xs := by
  obtain ⟨ao, cap, hv, hcap, hc⟩ := h
  refine ⟨ao, cap, hv, hcap, fun k hk => ?_⟩
  obtain ⟨ad, h1, h2⟩ := hc k hk
  exact ⟨ad, h1, (hb.cell (Nat.lt_of_lt_of_le (World.block_lt_of_cell? _ _ h2) hB)).trans h2⟩

/-- So many of the texts are the same. -/
def sameTo (xs ys : List (List UInt8)) (k : Nat) : Prop := xs.take k = ys.take k
theorem sameTo_zero (xs ys : List (List UInt8)) : sameTo xs ys 0 := by simp [sameTo]
theorem sameTo_step {xs ys : List (List UInt8)} {k : Nat} (h : sameTo xs ys k) (h1 : k < xs.length) (h2 : k < ys.length) (he : xs[k] = ys[k]) : sameTo xs ys (k + 1) := by
  unfold sameTo at h ⊢
  rw [List.take_succ_eq_append_getElem h1, List.take_succ_eq_append_getElem h2, h, he]
theorem same_not {xs ys : List (List UInt8)} {k : Nat} (h1 : k < xs.length) (h2 : k < ys.length) (he : ¬ xs[k] = ys[k]) : decide (xs = ys) = false := by
  apply decide_eq_false
  intro e
  subst e
  exact he rfl
theorem same_all {xs ys : List (List UInt8)} {k : Nat} (h : sameTo xs ys k) (h1 : ¬ k < xs.length) (hl : xs.length = ys.length) : decide (xs = ys) = true := by
  apply decide_eq_true
  unfold sameTo at h
  rw [List.take_of_length_le (by omega), List.take_of_length_le (by omega)] at h
  exact h

set_option maxRecDepth 20000 in
set_option maxHeartbeats 2000000 in
theorem same_any (va vb : Value) (xs ys : List (List UInt8)) (w : World) (hx : xs.length ≤ 2000000) (ha : strsAt w va xs) (hb : strsAt w vb ys) :
    Calls Try.prog 43 #[va, vb] w fun e w' => e = .returned (.bool (decide (xs = ys))) ∧ Below w.heap.size w w' := by
  obtain ⟨ao, ca, rfl, _, hca⟩ := ha
  obtain ⟨bo, cb, rfl, _, hcb⟩ := hb
  by_cases hl : xs.length = ys.length
  · go_enter Try.func43, Try.ntmps43
    go_wp2
    go_loopw [5] (fun i wr => ∃ k : Nat, k ≤ xs.length ∧ i = .int .i64 k ∧ sameTo xs ys k ∧ wr.heap = w.heap ∧ Below w.heap.size w wr) (fun i _ => xs.length - (intOf i).toNat)
    case atStart => exact ⟨0, by omega, rfl, sameTo_zero _ _, rfl, Below.refl _ w⟩
    case round =>
      obtain ⟨k, hk, rfl, hS, hheap, hbw⟩ := hrel
      by_cases hlt : k < xs.length
      · have hlt2 : k < ys.length := by omega
        obtain ⟨ad, rfl, hA⟩ := hca k hlt
        obtain ⟨bd, rfl, hB⟩ := hcb k hlt2
        have hA2 : wr.cell? (ad.add k) = some (.string ⟨(xs[k]).toArray⟩) := (World.cell?_of_block (by rw [hheap])).trans hA
        have hB2 : wr.cell? (bd.add k) = some (.string ⟨(ys[k]).toArray⟩) := (World.cell?_of_block (by rw [hheap])).trans hB
        clear hca hcb hA hB
        by_cases he : xs[k] = ys[k]
        · have HS := sameTo_step hS hlt hlt2 he
          rw [← he] at hB2
          generalize xs[k] = x at *
          go_wp2
          go_region
          all_goals
            go_wp2
            go_roundw
            case rel => exact ⟨k + 1, by omega, by go_num, HS, hheap, hbw.drew⟩
            case measure => simp [intOf]; omega
        · have HL : Hid (decide (xs = ys) = false) := by
            have h := same_not hlt hlt2 he
            exact h
          have hne : ¬ (⟨(xs[k]).toArray⟩ : ByteArray) = ⟨(ys[k]).toArray⟩ := fun e => he (by
            have := congrArg (fun b : ByteArray => b.data.toList) e
            simpa using this)
          have hbe : (xs[k] == ys[k]) = false := beq_eq_false_iff_ne.2 he
          generalize xs[k] = x at *
          generalize ys[k] = y at *
          go_wp2
          go_region
          all_goals
            go_wp2
            go_ret
            exact ⟨ret_bool HL.out.symm, hbw.drew⟩
      · have HL : Hid (decide (xs = ys) = true) := by
          have h := same_all hS hlt hl
          exact h
        go_wp2
        go_ret
        exact ⟨ret_bool HL.out.symm, hbw⟩
  · have HL : Hid (decide (xs = ys) = false) := by
      have h : decide (xs = ys) = false := decide_eq_false (fun e => hl (by rw [e]))
      exact h
    clear hca hcb
    go_enter Try.func43, Try.ntmps43
    go_wp2
    go_ret
    exact ⟨ret_bool HL.out.symm, Below.refl _ w⟩

/-! ### Quoted -/
/-- Where a walk through the characters stands: what is written, from where on the rest is not, what is still to read. -/
def quoteAt (l : List UInt8) (pos fr : Nat) (acc : List UInt8) : Prop := fr ≤ pos ∧ pos ≤ l.length ∧ acc.length + (pos - fr) ≤ 2 * pos ∧ Nm.quote l = acc ++ ((l.take pos).drop fr ++ Nm.quote (l.drop pos))
theorem quoteAt_zero (l : List UInt8) : quoteAt l 0 0 [] := ⟨by omega, by omega, by simp, by simp⟩
theorem take_chunk (l : List UInt8) {fr pos d : Nat} (h1 : fr ≤ pos) (h2 : pos ≤ l.length) : (l.take (pos + d)).drop fr = (l.take pos).drop fr ++ (l.drop pos).take d := by
  rw [List.take_add, List.drop_append_of_le_length (by simp; omega)]
/-- The byte in front of what is quoted; the character is that byte. -/
theorem isQN_byte {l : List UInt8} (hne : l ≠ []) (h : isQN (Lib.decodeL l).1 = true) : ∃ b t, l = b :: t ∧ Nm.isQ b = true ∧ (Lib.decodeL l).2 = 1 ∧ b.toNat = (Lib.decodeL l).1 := by
  cases l with
  | nil => exact absurd rfl hne
  | cons b t =>
    rcases Nm.chunk (b :: t) hne with ⟨h1, h2⟩ | ⟨_, h2, _⟩
    · rw [h2] at h
      simp only [List.getD_cons_zero] at h h1 h2
      refine ⟨b, t, rfl, ?_, by rw [h2], by rw [h2]⟩
      simp only [isQN, Bool.or_eq_true, beq_iff_eq] at h
      simp only [Nm.isQ, Bool.or_eq_true, beq_iff_eq]
      rcases h with h | h
      · left; exact UInt8.toNat_inj.1 h
      · right; exact UInt8.toNat_inj.1 h
    · simp only [isQN, Bool.or_eq_true, beq_iff_eq] at h
      omega
/-- No byte of another character is a slash or an escape. -/
theorem isQN_none {l : List UInt8} (hne : l ≠ []) (h : isQN (Lib.decodeL l).1 = false) : ∀ x ∈ l.take (Lib.decodeL l).2, Nm.isQ x = false := by
  rcases Nm.chunk l hne with ⟨h1, h2⟩ | ⟨_, _, h3⟩
  · intro x hx
    rw [h2] at h hx
    cases l with
    | nil => exact absurd rfl hne
    | cons b t =>
      simp only [List.getD_cons_zero] at h
      simp at hx
      subst hx
      simp only [isQN, Bool.or_eq_false_iff, beq_eq_false_iff_ne] at h
      simp only [Nm.isQ, Bool.or_eq_false_iff, beq_eq_false_iff_ne]
      refine ⟨fun e => h.1 (by rw [e]; rfl), fun e => h.2 (by rw [e]; rfl)⟩
  · intro x hx
    exact Nm.isQ_high (h3 x hx)
theorem quoteAt_step {l : List UInt8} {pos fr : Nat} {acc : List UInt8} (h : quoteAt l pos fr acc) (hne : l.drop pos ≠ []) (hq : isQN (Lib.decodeL (l.drop pos)).1 = false) : quoteAt l (pos + (Lib.decodeL (l.drop pos)).2) fr acc := by
  have h1 := Lib.decodeL_le _ hne
  rw [List.length_drop] at h1
  obtain ⟨a1, a2, a3, a4⟩ := h
  refine ⟨by omega, by omega, by omega, ?_⟩
  rw [take_chunk l a1 a2, a4]
  have e : Nm.quote (l.drop pos) = (l.drop pos).take (Lib.decodeL (l.drop pos)).2 ++ Nm.quote (l.drop (pos + (Lib.decodeL (l.drop pos)).2)) := by
    conv => lhs; rw [← List.take_append_drop (Lib.decodeL (l.drop pos)).2 (l.drop pos)]
    rw [Nm.quote_append, Nm.quote_high (isQN_none hne hq), List.drop_drop]
  rw [e]
  simp
theorem quoteAt_esc {l : List UInt8} {pos fr : Nat} {acc : List UInt8} (h : quoteAt l pos fr acc) (hne : l.drop pos ≠ []) (hq : isQN (Lib.decodeL (l.drop pos)).1 = true) : quoteAt l (pos + (Lib.decodeL (l.drop pos)).2) pos (acc ++ (l.take pos).drop fr ++ [92]) := by
  have h1 := Lib.decodeL_le _ hne
  rw [List.length_drop] at h1
  obtain ⟨b, t, e1, e2, e3, _⟩ := isQN_byte hne hq
  obtain ⟨a1, a2, a3, a4⟩ := h
  rw [e3] at h1 ⊢
  refine ⟨by omega, by omega, ?_, ?_⟩
  · simp only [List.length_append, List.length_drop, List.length_take, List.length_singleton]
    omega
  · have e4 : l.drop (pos + 1) = t := by rw [← List.drop_drop, e1]; rfl
    have e5 : (l.take (pos + 1)).drop pos = [b] := by
      rw [take_chunk l (Nat.le_refl _) a2, e1]
      simp
    rw [e4, e5, a4, e1, Nm.quote_cons, if_pos e2]
    simp

theorem quoteAt_end {l : List UInt8} {pos fr : Nat} {acc : List UInt8} (h : quoteAt l pos fr acc) (hn : l.drop pos = []) : Nm.quote l = acc ++ l.drop fr := by
  obtain ⟨a1, a2, a3, a4⟩ := h
  have : pos = l.length := by
    have := congrArg List.length hn
    rw [List.length_drop] at this
    simp at this
    omega
  rw [a4, hn, Nm.quote_nil, List.append_nil, this, List.take_length]
theorem extract_mid (s : ByteArray) {a b : Nat} : (s.extract a b).data.toList = (s.data.toList.take b).drop a := by
  rw [extract_list, List.drop_take]

theorem slice_one (s : ByteArray) (a : Nat) (h : a < s.size) : ∀ wx, (Instr.slice 9 (.string s) (some (.int .i64 (a : Int))) (some (.int .i64 ((a : Int) + 1))) none).run Try.prog wx = .ok (.string ⟨#[s[a]]⟩) wx := by
  intro wx
  have h1 := slice_add s a 1 (by omega) wx
  have e : s.extract a (a + 1) = ⟨#[s[a]]⟩ := by
    have := bytes_of (extract_list s a (a + 1))
    rw [this]
    have h2 : (s.data.toList.drop a).take (a + 1 - a) = [s[a]] := by
      rw [Nat.add_sub_cancel_left, List.drop_eq_getElem_cons (by rw [size_len]; exact h)]
      rfl
    rw [h2]
  rw [e] at h1
  exact h1
theorem drop_cons {s : ByteArray} {pos : Nat} (h : pos < s.size) : s.data.toList.drop pos = s[pos] :: s.data.toList.drop (pos + 1) := by
  rw [List.drop_eq_getElem_cons (by rw [size_len]; exact h)]
  rfl
theorem app_bytes (acc : List UInt8) (b : UInt8) : (⟨acc.toArray⟩ : ByteArray) ++ ⟨#[b]⟩ = ⟨(acc ++ [b]).toArray⟩ := by
  apply bytes_of
  rw [ByteArray.data_append, Array.toList_append]
def qAt (l : List UInt8) (pos : Nat) (acc : List UInt8) : Prop := pos ≤ l.length ∧ acc.length ≤ 2 * pos ∧ Nm.quote l = acc ++ Nm.quote (l.drop pos)
theorem qAt_zero (l : List UInt8) : qAt l 0 [] := ⟨by omega, by simp, by simp⟩
theorem qAt_esc {s : ByteArray} {pos : Nat} {acc : List UInt8} (h : qAt s.data.toList pos acc) (hp : pos < s.size) (hq : Nm.isQ s[pos] = true) : qAt s.data.toList (pos + 1) (acc ++ [92] ++ [s[pos]]) := by
  obtain ⟨a1, a2, a3⟩ := h
  refine ⟨by rw [size_len]; omega, by simp; omega, ?_⟩
  rw [a3, drop_cons hp, Nm.quote_cons, if_pos hq]
  simp
theorem qAt_plain {s : ByteArray} {pos : Nat} {acc : List UInt8} (h : qAt s.data.toList pos acc) (hp : pos < s.size) (hq : Nm.isQ s[pos] = false) : qAt s.data.toList (pos + 1) (acc ++ [s[pos]]) := by
  obtain ⟨a1, a2, a3⟩ := h
  refine ⟨by rw [size_len]; omega, by simp; omega, ?_⟩
  rw [a3, drop_cons hp, Nm.quote_cons, if_neg (by rw [hq]; simp)]
  simp
theorem isQ_nat (b : UInt8) : Nm.isQ b = isQN b.toNat := by
  simp only [Nm.isQ, isQN]
  congr 1
  · rw [Bool.eq_iff_iff]
    simp only [beq_iff_eq]
    exact ⟨fun e => by rw [e]; rfl, fun e => UInt8.toNat_inj.1 e⟩
  · rw [Bool.eq_iff_iff]
    simp only [beq_iff_eq]
    exact ⟨fun e => by rw [e]; rfl, fun e => UInt8.toNat_inj.1 e⟩

end Go.Proofs.Ytbbehccagdibcaa.U
