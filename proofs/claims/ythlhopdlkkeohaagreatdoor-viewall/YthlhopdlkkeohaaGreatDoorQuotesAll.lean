/- The walks of 'Same', the two 'Quote' · The walks of slices.Equal, Same, Under and of the document's Under · The walks of 'lastByte' and 'number' · The walks of the reader's methods, over a reader that lies in memory of its own · What was told is read again: the walks of Many and Text over a reader whose text begins so · The walks of the program's Compare and of the document's · The walks of cmp.Compare of texts, of slices.Compare, Compare and the document's Compare. -/
import Derived.Test.YthlhopdlkkeohaaGreatDoorBuilderAll
import Derived.Test.YthlhopdlkkeohaaGreatDoorPlainAll
import Derived.Test.YthlhopdlkkeohaaGreatDoorChecked
import Derived.WalkKit
import Derived.Deep.QuietTactic
import Derived.BigQuiet
import Derived.WalkSmall
import Derived.Laws.IdiomStrings
import Derived.Laws.BytesArg
import Derived.Deep.RegionWith
import Derived.WalkLawsBesides
import Derived.Deep.RegionHeld3
import Derived.Lib.Small
/- The walks of 'Same', the two 'Quote'. -/
namespace Go.Proofs.YthlhopdlkkeohaaGreatDoor.U
open Go.RowKit

/-! ### Texts in memory -/
def cellsS (l : List (List UInt8)) : List Value := l.map fun x => .string ⟨x.toArray⟩
theorem cellsS_snoc (l : List (List UInt8)) (x : List UInt8) : cellsS l ++ [.string ⟨x.toArray⟩] = cellsS (l ++ [x]) := by simp [cellsS]
theorem cellsS_length (l : List (List UInt8)) : (cellsS l).length = l.length := by simp [cellsS]
theorem cellsS_at {l : List (List UInt8)} {k : Nat} (h : k < l.length) : (cellsS l)[k]? = some (.string ⟨(l[k]).toArray⟩) := by simp [cellsS, List.getElem?_eq_getElem h]
/-- A slice in memory reads as these texts. -/
def strsAt (w : World) (v : Value) (xs : List (List UInt8)) : Prop := ∃ ao cap, v = .slice ao xs.length cap ∧ xs.length ≤ cap ∧ ∀ k (h : k < xs.length), ∃ ad, ao = some ad ∧ w.cell? (ad.add k) = some (.string ⟨(xs[k]).toArray⟩)
theorem strsAt_nil (w : World) : strsAt w (.slice none 0 0) [] := ⟨none, 0, rfl, Nat.le_refl _, fun k h => by simp at h⟩
theorem strsAt_own {w : World} {B : Nat} {v : Value} {xs : List (List UInt8)} (h : w.ownsRow B 9 1 v xs.length (cellsS xs)) : strsAt w v xs := by
  rcases h.2 with ⟨rfl, h0⟩ | ⟨g, cap, cur, rfl, r⟩
  · obtain rfl : xs = [] := List.eq_nil_of_length_eq_zero h0
    exact strsAt_nil w
  · exact ⟨_, cap, rfl, r.2.2.1, fun k hk => ⟨_, rfl, h.cells rfl k _ (cellsS_at hk)⟩⟩
theorem strsAt_below {w w' : World} {B : Nat} {v : Value} {xs : List (List UInt8)} (h : strsAt w v xs) (hb : Below B w w') (hB : w.heap.size ≤ B) : strsAt w' v xs := by
  obtain ⟨ao, cap, hv, hcap, hc⟩ := h
  refine ⟨ao, cap, hv, hcap, fun k hk => ?_⟩
  obtain ⟨ad, h1, h2⟩ := hc k hk
  exact ⟨ad, h1, (hb.cell (Nat.lt_of_lt_of_le (World.block_lt_of_cell? _ _ h2) hB)).trans h2⟩

/-- So many of the texts are the same. -/
def sameTo (xs ys : List (List UInt8)) (k : Nat) : Prop := xs.take k = ys.take k
theorem sameTo_zero (xs ys : List (List UInt8)) : sameTo xs ys 0 := by simp [sameTo]
theorem sameTo_step {xs ys : List (List UInt8)} {k : Nat} (h : sameTo xs ys k) (h1 : k < xs.length) (h2 : k < ys.length) (he : xs[k] = ys[k]) : sameTo xs ys (k + 1) := by
  unfold sameTo at h ⊢
  rw [List.take_succ_eq_append_getElem h1, List.take_succ_eq_append_getElem h2, h, he]
theorem same_not {xs ys : List (List UInt8)} {k : Nat} (h1 : k < xs.length) (h2 : k < ys.length) (he : ¬ xs[k] = ys[k]) : decide (xs = ys) = false := by
  apply decide_eq_false
  intro e
  subst e
  exact he rfl
theorem same_all {xs ys : List (List UInt8)} {k : Nat} (h : sameTo xs ys k) (h1 : ¬ k < xs.length) (hl : xs.length = ys.length) : decide (xs = ys) = true := by
  apply decide_eq_true
  unfold sameTo at h
  rw [List.take_of_length_le (by omega), List.take_of_length_le (by omega)] at h
  exact h

/-! ### Quoted -/
/-- Where a walk through the characters stands: what is written, from where on the rest is not, what is still to read. -/
def quoteAt (l : List UInt8) (pos fr : Nat) (acc : List UInt8) : Prop := fr ≤ pos ∧ pos ≤ l.length ∧ acc.length + (pos - fr) ≤ 2 * pos ∧ Nm.quote l = acc ++ ((l.take pos).drop fr ++ Nm.quote (l.drop pos))
theorem quoteAt_zero (l : List UInt8) : quoteAt l 0 0 [] := ⟨by omega, by omega, by simp, by simp⟩
theorem take_chunk (l : List UInt8) {fr pos d : Nat} (h1 : fr ≤ pos) (h2 : pos ≤ l.length) : (l.take (pos + d)).drop fr = (l.take pos).drop fr ++ (l.drop pos).take d := by
  rw [List.take_add, List.drop_append_of_le_length (by simp; omega)]
/-- The byte in front of what is quoted; the character is that byte. -/
theorem isQN_byte {l : List UInt8} (hne : l ≠ []) (h : isQN (Lib.decodeL l).1 = true) : ∃ b t, l = b :: t ∧ Nm.isQ b = true ∧ (Lib.decodeL l).2 = 1 ∧ b.toNat = (Lib.decodeL l).1 := by
  cases l with
  | nil => exact absurd rfl hne
  | cons b t =>
    rcases Nm.chunk (b :: t) hne with ⟨h1, h2⟩ | ⟨_, h2, _⟩
    · rw [h2] at h
      simp only [List.getD_cons_zero] at h h1 h2
      refine ⟨b, t, rfl, ?_, by rw [h2], by rw [h2]⟩
      simp only [isQN, Bool.or_eq_true, beq_iff_eq] at h
      simp only [Nm.isQ, Bool.or_eq_true, beq_iff_eq]
      rcases h with h | h
      · left; exact UInt8.toNat_inj.1 h
      · right; exact UInt8.toNat_inj.1 h
    · simp only [isQN, Bool.or_eq_true, beq_iff_eq] at h
      omega
/-- No byte of another character is a slash or an escape. -/
theorem isQN_none {l : List UInt8} (hne : l ≠ []) (h : isQN (Lib.decodeL l).1 = false) : ∀ x ∈ l.take (Lib.decodeL l).2, Nm.isQ x = false := by
  rcases Nm.chunk l hne with ⟨h1, h2⟩ | ⟨_, _, h3⟩
  · intro x hx
    rw [h2] at h hx
    cases l with
    | nil => exact absurd rfl hne
    | cons b t =>
      simp only [List.getD_cons_zero] at h
      simp at hx
      subst hx
      simp only [isQN, Bool.or_eq_false_iff, beq_eq_false_iff_ne] at h
      simp only [Nm.isQ, Bool.or_eq_false_iff, beq_eq_false_iff_ne]
      refine ⟨fun e => h.1 (by rw [e]; rfl), fun e => h.2 (by rw [e]; rfl)⟩
  · intro x hx
    exact Nm.isQ_high (h3 x hx)
theorem quoteAt_step {l : List UInt8} {pos fr : Nat} {acc : List UInt8} (h : quoteAt l pos fr acc) (hne : l.drop pos ≠ []) (hq : isQN (Lib.decodeL (l.drop pos)).1 = false) : quoteAt l (pos + (Lib.decodeL (l.drop pos)).2) fr acc := by
  have h1 := Lib.decodeL_le _ hne
  rw [List.length_drop] at h1
  obtain ⟨a1, a2, a3, a4⟩ := h
  refine ⟨by omega, by omega, by omega, ?_⟩
  rw [take_chunk l a1 a2, a4]
  have e : Nm.quote (l.drop pos) = (l.drop pos).take (Lib.decodeL (l.drop pos)).2 ++ Nm.quote (l.drop (pos + (Lib.decodeL (l.drop pos)).2)) := by
    conv => lhs; rw [← List.take_append_drop (Lib.decodeL (l.drop pos)).2 (l.drop pos)]
    rw [Nm.quote_append, Nm.quote_high (isQN_none hne hq), List.drop_drop]
  rw [e]
  simp
theorem quoteAt_esc {l : List UInt8} {pos fr : Nat} {acc : List UInt8} (h : quoteAt l pos fr acc) (hne : l.drop pos ≠ []) (hq : isQN (Lib.decodeL (l.drop pos)).1 = true) : quoteAt l (pos + (Lib.decodeL (l.drop pos)).2) pos (acc ++ (l.take pos).drop fr ++ [92]) := by
  have h1 := Lib.decodeL_le _ hne
  rw [List.length_drop] at h1
  obtain ⟨b, t, e1, e2, e3, _⟩ := isQN_byte hne hq
  obtain ⟨a1, a2, a3, a4⟩ := h
  rw [e3] at h1 ⊢
  refine ⟨by omega, by omega, ?_, ?_⟩
  · simp only [List.length_append, List.length_drop, List.length_take, List.length_singleton]
    omega
  · have e4 : l.drop (pos + 1) = t := by rw [← List.drop_drop, e1]; rfl
    have e5 : (l.take (pos + 1)).drop pos = [b] := by
      rw [take_chunk l (Nat.le_refl _) a2, e1]
      simp
    rw [e4, e5, a4, e1, Nm.quote_cons, if_pos e2]
    simp

theorem quoteAt_end {l : List UInt8} {pos fr : Nat} {acc : List UInt8} (h : quoteAt l pos fr acc) (hn : l.drop pos = []) : Nm.quote l = acc ++ l.drop fr := by
  obtain ⟨a1, a2, a3, a4⟩ := h
  have : pos = l.length := by
    have := congrArg List.length hn
    rw [List.length_drop] at this
    simp at this
    omega
  rw [a4, hn, Nm.quote_nil, List.append_nil, this, List.take_length]
theorem extract_mid (s : ByteArray) {a b : Nat} : (s.extract a b).data.toList = (s.data.toList.take b).drop a := by
  rw [extract_list, List.drop_take]

set_option maxRecDepth 100000 in
set_option maxHeartbeats 4000000 in
theorem quote_any (s : ByteArray) (w : World) (hs : s.size ≤ 2000000) :
    Calls Tryz.prog 88 #[.string s] w fun e w' => e = .returned (.string ⟨(Nm.quote s.data.toList).toArray⟩) ∧ Below w.heap.size w w' := by
  go_enter Tryz.func88, Tryz.ntmps88
  go_wp2
  go_loopw [4] (fun f wr => ∃ (pos fr : Nat) (acc : List UInt8), f = .int .i64 fr ∧ Lib.IsBuilderF 102 5 w.heap.size w.heap.size (Lib.byteCells acc) wr ∧ wr.heap[w.heap.size + 1]? = some (.stringIter s pos) ∧ Below w.heap.size w wr ∧ quoteAt s.data.toList pos fr acc) (fun _ wr => s.size - wr.iterPos (w.heap.size + 1))
  case atStart =>
    refine ⟨0, 0, [], rfl, (Lib.IsBuilderF.of (Lib.fresh_isBuilder 102 5 w)).alloc _, ?_, ((Below.refl _ w).alloc (Nat.le_refl _) _).alloc (by simp) _, quoteAt_zero _⟩
    have := World.iter_heap (w.alloc (.cells #[.pointer none, .slice none 0 0] 102)) s 0
    simpa using this
  case round =>
    obtain ⟨pos, fr, acc, rfl, hI, hit, hbw, hR⟩ := hrel
    have hsz : w.heap.size + 1 < wr.heap.size := heap_lt hit
    have hfr := hR.1
    have hpl := hR.2.1
    rw [size_len] at hpl
    have hal := hR.2.2.1
    by_cases hp : pos < s.size
    · have hnx : ∀ ty, (Instr.next (.pointer (some ⟨w.heap.size + 1, 0, none⟩)) true ty).run Tryz.prog wr = _ := fun ty => Lib.run_next_any_at wr (w.heap.size + 1) s pos ty hit hp
      have HE : Hid (s.data.toList.drop pos ≠ []) := drop_ne hp
      have HD : Hid (Lib.decodeL (s.data.toList.drop pos) = Utf8.decode s pos) := Lib.decodeL_drop s pos
      have hd1 := decode_le s pos
      have hwd : 1 ≤ (Utf8.decode s pos).2 := by rw [← HD.out]; exact Lib.decodeL_width _
      have hI2 := hI.iterAt hit (pos + (Utf8.decode s pos).2)
      have hit2 := Lib.iterAt_heap wr (w.heap.size + 1) s pos (pos + (Utf8.decode s pos).2) hit
      have hbw2 := Lib.below_iterAt hbw (k := w.heap.size + 1) (by omega) s (pos + (Utf8.decode s pos).2)
      have hsz2 : w.heap.size ≤ (wr.iterAt (w.heap.size + 1) s (pos + (Utf8.decode s pos).2)).heap.size := by rw [Lib.iterAt_size]; omega
      have HQ := isQuoted_any (Utf8.decode s pos).1
      cases hq : isQN (Utf8.decode s pos).1 with
      | false =>
        rw [hq] at HQ
        have HR : Hid (quoteAt s.data.toList (pos + (Utf8.decode s pos).2) fr acc) := by
          have h := quoteAt_step hR HE.out (by rw [HD.out]; exact hq)
          rw [HD.out] at h
          exact h
        clear hR
        go_wp2_with (first | (go_at_call 127; refine (HQ _ hd1).mono ?_; rintro e W1 ⟨rfl, rfl⟩) | go_in)
        go_roundw
        case rel => exact ⟨_, fr, acc, rfl, hI2, hit2, hbw2, HR.out⟩
        case measure =>
          simp only [World.iterPos, hit2, hit]
          omega
      | true =>
        rw [hq] at HQ
        have HR : Hid (quoteAt s.data.toList (pos + (Utf8.decode s pos).2) pos (acc ++ (s.data.toList.take pos).drop fr ++ [92])) := by
          have h := quoteAt_esc hR HE.out (by rw [HD.out]; exact hq)
          rw [HD.out] at h
          exact h
        clear hR
        have HX : Hid (Lib.strCells (s.extract fr pos) = Lib.byteCells ((s.data.toList.take pos).drop fr)) := by
          have h : Lib.strCells (s.extract fr pos) = Lib.byteCells ((s.data.toList.take pos).drop fr) := by rw [Lib.strCells_eq, extract_mid s]
          exact h
        go_wp2_with (first
          | (go_at_call 127; refine (HQ _ hd1).mono ?_; rintro e W1 ⟨rfl, rfl⟩)
          | (go_at_call 50; refine (writeString_any w.heap.size w.heap.size _ (s.extract fr pos) _ hI2 (by rw [Lib.byteCells_length, ByteArray.size_extract]; omega) hsz2).mono ?_)
          | go_in)
        rintro e W1 ⟨rfl, h1, b1, k1⟩
        rw [HX.out, ← Lib.byteCells_append] at h1
        have hit3 := k1.iter hit2 (by omega)
        have hsz3 : w.heap.size ≤ W1.heap.size := Nat.le_trans hsz2 b1.size
        have hlen : (acc ++ (s.data.toList.take pos).drop fr).length ≤ 2 * s.size := by
          rw [List.length_append, List.length_drop, List.length_take, size_len]; omega
        go_wp2_with (first
          | (go_at_call 51; refine (writeByte_any w.heap.size w.heap.size _ 92 _ h1 (by rw [Lib.byteCells_length]; omega) hsz3).mono ?_)
          | go_in)
        rintro e W2 ⟨rfl, h2, b2, k2⟩
        have hit4 := k2.iter hit3 (by omega)
        go_wp2
        go_roundw
        case rel =>
          refine ⟨pos + (Utf8.decode s pos).2, pos, acc ++ (s.data.toList.take pos).drop fr ++ [92], rfl, ?_, hit4, (hbw2.trans b1).trans b2, HR.out⟩
          rw [Lib.byteCells_append]
          exact h2
        case measure =>
          simp only [World.iterPos, hit4, hit]
          omega
    · have hnx : ∀ ty, (Instr.next (.pointer (some ⟨w.heap.size + 1, 0, none⟩)) true ty).run Tryz.prog wr = _ := fun ty => Lib.run_next_end_at wr (w.heap.size + 1) s pos ty hit hp
      have HL : Hid (Nm.quote s.data.toList = acc ++ s.data.toList.drop fr) := by
        have h := quoteAt_end hR (drop_nil hp)
        exact h
      clear hR
      have HX : Hid (Lib.strCells (s.extract fr s.size) = Lib.byteCells (s.data.toList.drop fr)) := by
        have h : Lib.strCells (s.extract fr s.size) = Lib.byteCells (s.data.toList.drop fr) := by rw [Lib.strCells_eq, extract_high]
        exact h
      go_wp2_with (first
        | (go_at_call 50; refine (writeString_any w.heap.size w.heap.size _ (s.extract fr s.size) _ hI (by rw [Lib.byteCells_length, ByteArray.size_extract]; omega) (by omega)).mono ?_)
        | go_in)
      rintro e W1 ⟨rfl, h1, b1, k1⟩
      rw [HX.out, ← Lib.byteCells_append] at h1
      have hsz3 : w.heap.size ≤ W1.heap.size := Nat.le_trans (by omega) b1.size
      go_wp2_with (first | (go_at_call 52; refine (bString w.heap.size w.heap.size _ _ h1 hsz3).mono ?_) | go_in)
      rintro e W2 ⟨rfl, _, b2, _⟩
      go_wp2
      go_ret
      exact ⟨ret_str (by rw [HL.out]), (hbw.trans b1).trans b2⟩

theorem slice_one (s : ByteArray) (a : Nat) (h : a < s.size) : ∀ wx, (Instr.slice 9 (.string s) (some (.int .i64 (a : Int))) (some (.int .i64 ((a : Int) + 1))) none).run Tryz.prog wx = .ok (.string ⟨#[s[a]]⟩) wx := by
  intro wx
  have h1 := slice_add s a 1 (by omega) wx
  have e : s.extract a (a + 1) = ⟨#[s[a]]⟩ := by
    have := bytes_of (extract_list s a (a + 1))
    rw [this]
    have h2 : (s.data.toList.drop a).take (a + 1 - a) = [s[a]] := by
      rw [Nat.add_sub_cancel_left, List.drop_eq_getElem_cons (by rw [size_len]; exact h)]
      rfl
    rw [h2]
  rw [e] at h1
  exact h1
theorem drop_cons {s : ByteArray} {pos : Nat} (h : pos < s.size) : s.data.toList.drop pos = s[pos] :: s.data.toList.drop (pos + 1) := by
  rw [List.drop_eq_getElem_cons (by rw [size_len]; exact h)]
  rfl
theorem app_bytes (acc : List UInt8) (b : UInt8) : (⟨acc.toArray⟩ : ByteArray) ++ ⟨#[b]⟩ = ⟨(acc ++ [b]).toArray⟩ := by
  apply bytes_of
  rw [ByteArray.data_append, Array.toList_append]
def qAt (l : List UInt8) (pos : Nat) (acc : List UInt8) : Prop := pos ≤ l.length ∧ acc.length ≤ 2 * pos ∧ Nm.quote l = acc ++ Nm.quote (l.drop pos)
theorem qAt_zero (l : List UInt8) : qAt l 0 [] := ⟨by omega, by simp, by simp⟩
end Go.Proofs.YthlhopdlkkeohaaGreatDoor.U
/- The walks of slices.Equal, Same, Under and of the document's Under. -/
namespace Go.Proofs.YthlhopdlkkeohaaGreatDoor.U
open Go.RowKit

theorem strsAt_len {w : World} {v : Value} {xs : List (List UInt8)} (h : strsAt w v xs) : ∃ ao cap, v = .slice ao xs.length cap := by
  obtain ⟨ao, cap, hv, _⟩ := h
  exact ⟨ao, cap, hv⟩
theorem bytes_ne {a b : List UInt8} (h : a ≠ b) : ¬ (⟨a.toArray⟩ : ByteArray) = ⟨b.toArray⟩ := fun e => h (by
  have := congrArg (fun b : ByteArray => b.data.toList) e
  simpa using this)

set_option maxRecDepth 20000 in
set_option maxHeartbeats 2000000 in
theorem equal_any (va vb : Value) (xs ys : List (List UInt8)) (w : World) (hx : xs.length ≤ 2000000) (ha : strsAt w va xs) (hb : strsAt w vb ys) :
    Calls Tryz.prog 119 #[va, vb] w fun e w' => e = .returned (.bool (decide (xs = ys))) ∧ Below w.heap.size w w' := by
  obtain ⟨ao, ca, rfl, _, hca⟩ := ha
  obtain ⟨bo, cb, rfl, _, hcb⟩ := hb
  by_cases hl : xs.length = ys.length
  · go_enter Tryz.func119, Tryz.ntmps119
    go_wp2
    go_loopw [13] (fun i wr => ∃ k : Nat, k ≤ xs.length ∧ i = .int .i64 k ∧ sameTo xs ys k ∧ wr.heap = w.heap ∧ Below w.heap.size w wr) (fun i _ => xs.length - (intOf i).toNat)
    case atStart => exact ⟨0, by omega, rfl, sameTo_zero _ _, rfl, Below.refl _ w⟩
    case round =>
      obtain ⟨k, hk, rfl, hS, hheap, hbw⟩ := hrel
      by_cases hlt : k < xs.length
      · have hlt2 : k < ys.length := by omega
        obtain ⟨ad, rfl, hA⟩ := hca k hlt
        obtain ⟨bd, rfl, hB⟩ := hcb k hlt2
        have hA2 : wr.cell? (ad.add k) = some (.string ⟨(xs[k]).toArray⟩) := (World.cell?_of_block (by rw [hheap])).trans hA
        have hB2 : wr.cell? (bd.add k) = some (.string ⟨(ys[k]).toArray⟩) := (World.cell?_of_block (by rw [hheap])).trans hB
        clear hca hcb hA hB
        by_cases he : xs[k] = ys[k]
        · have HS := sameTo_step hS hlt hlt2 he
          rw [← he] at hB2
          generalize xs[k] = x at *
          go_wp2
          go_region
          all_goals
            go_wp2
            go_roundw
            case rel => exact ⟨k + 1, by omega, by go_num, HS, hheap, hbw.drew⟩
            case measure => simp [intOf]; omega
        · have HL : Hid (decide (xs = ys) = false) := by
            have h := same_not hlt hlt2 he
            exact h
          have hne := bytes_ne he
          have hbe : (xs[k] == ys[k]) = false := beq_eq_false_iff_ne.2 he
          generalize xs[k] = x at *
          generalize ys[k] = y at *
          go_wp2
          go_region
          all_goals
            go_wp2
            go_ret
            exact ⟨ret_bool HL.out.symm, hbw.drew⟩
      · have HL : Hid (decide (xs = ys) = true) := by
          have h := same_all hS hlt hl
          exact h
        go_wp2
        go_ret
        exact ⟨ret_bool HL.out.symm, hbw⟩
  · have HL : Hid (decide (xs = ys) = false) := by
      have h : decide (xs = ys) = false := decide_eq_false (fun e => hl (by rw [e]))
      exact h
    clear hca hcb
    go_enter Tryz.func119, Tryz.ntmps119
    go_wp2
    go_ret
    exact ⟨ret_bool HL.out.symm, Below.refl _ w⟩

/-- The program's Same. -/
theorem psame_any (va vb : Value) (xs ys : List (List UInt8)) (w : World) (hx : xs.length ≤ 2000000) (ha : strsAt w va xs) (hb : strsAt w vb ys) :
    Calls Tryz.prog 77 #[va, vb] w fun e w' => e = .returned (.bool (decide (xs = ys))) ∧ Below w.heap.size w w' := by
  have HC := equal_any va vb xs ys w hx ha hb
  go_enter Tryz.func77, Tryz.ntmps77
  go_wp2_with (go_at_call 119; (with_reducible refine HC.mono ?_); rintro e w1 ⟨rfl, hb1⟩)
  go_ret
  exact ⟨rfl, hb1⟩

end Go.Proofs.YthlhopdlkkeohaaGreatDoor.U
/- The walks of 'lastByte' and 'number'. -/
namespace Go.Proofs.YthlhopdlkkeohaaGreatDoor
open Go.RowKit

theorem ret_int {k : IntKind} {a b : Int} (h : a = b) : Ending.returned (.int k a) = .returned (.int k b) := by rw [h]
theorem size_len (s : ByteArray) : s.data.toList.length = s.size := by simp
theorem get_data (s : ByteArray) (k : Nat) (h : k < s.size) : s.data.toList[k]'(by simpa using h) = s[k] := rfl

theorem ret3 {a a' c c' : Int} {b b' : ByteArray} (h1 : a = a') (h2 : b = b') (h3 : c = c') : Ending.returned (.tuple #[.int .i64 a, .string b, .int .i64 c]) = .returned (.tuple #[.int .i64 a', .string b', .int .i64 c']) := by rw [h1, h2, h3]
/-- What 'number' tells, as the program's values. -/
def numV (l : List UInt8) : Value := .tuple #[.int .i64 ((Pk.num l).1 : Nat), .string ⟨(Pk.num l).2.1.toArray⟩, .int .i64 ((Pk.num l).2.2 : Nat)]

theorem extract_high (s : ByteArray) (k : Nat) : s.extract k s.size = ⟨(s.data.toList.drop k).toArray⟩ := by
  apply ByteArray.ext
  apply Array.toList_inj.1
  simp only [ByteArray.data_extract, Array.toList_extract, List.extract_eq_take_drop]
  exact List.take_of_length_le (by simp)

end Go.Proofs.YthlhopdlkkeohaaGreatDoor
/- The walks of the reader's methods, over a reader that lies in memory of its own. -/
namespace Go.Proofs.YthlhopdlkkeohaaGreatDoor
open Go.RowKit

/-- All that was there is as it was, but for one block. -/
structure But (b : Nat) (w w' : World) : Prop where
  os : w'.os = w.os
  tape : w'.tape = w.tape
  output : w'.output = w.output
  size : w.heap.size ≤ w'.heap.size
  block : ∀ k, k < w.heap.size → k ≠ b → w'.heap[k]? = w.heap[k]?
theorem But.refl (b : Nat) (w : World) : But b w w := ⟨rfl, rfl, rfl, Nat.le_refl _, fun _ _ _ => rfl⟩
theorem But.trans {b : Nat} {a c d : World} (h : But b a c) (k : But b c d) : But b a d :=
  ⟨k.os.trans h.os, k.tape.trans h.tape, k.output.trans h.output, Nat.le_trans h.size k.size, fun i hi hb => (k.block i (Nat.lt_of_lt_of_le hi h.size) hb).trans (h.block i hi hb)⟩
theorem But.of {b : Nat} {w w' : World} (h : Below w.heap.size w w') : But b w w' := ⟨h.os, h.tape, h.output, h.size, fun k hk _ => h.block k hk⟩
theorem But.below {b B : Nat} {w w' : World} (h : But b w w') (hB : B ≤ b) (hb : B ≤ w.heap.size) : Below B w w' :=
  ⟨h.os, h.tape, h.output, h.size, fun k hk => h.block k (Nat.lt_of_lt_of_le hk hb) (Nat.ne_of_lt (Nat.lt_of_lt_of_le hk hB))⟩
theorem But.cell {b : Nat} {w w' : World} {a : Addr} {v : Value} (h : But b w w') (ha : w.cell? a = some v) (hne : a.block ≠ b) : w'.cell? a = some v :=
  (World.cell?_of_block (w := w) (h.block a.block (World.block_lt_of_cell? w a ha) hne)).trans ha
theorem But.frozen {b : Nat} {w w' : World} {a : Addr} {v : Value} {f : Bool} (h : But b w w') (ha : w.cell? a = some v) (hf : w.frozen? a = f) (hne : a.block ≠ b) : w'.frozen? a = f :=
  (World.frozen?_of_block (w := w) (h.block a.block (World.block_lt_of_cell? w a ha) hne)).trans hf
theorem But.set (w : World) (b o : Nat) (v : Value) : But b w (w.setCell ⟨b, o, none⟩ v) := by
  have h := (Below.refl 0 w).setCell (p := ⟨b, o, none⟩) (Nat.zero_le _) v
  exact ⟨h.os, h.tape, h.output, h.size, fun k _ hk => Below.heap_setCell w ⟨b, o, none⟩ v k hk⟩

/-- A reader at a block: what is left, and what is wrong. -/
structure Rd (w : World) (b : Nat) (l : List UInt8) (f : Nat) : Prop where
  left : w.cell? ⟨b, 0, none⟩ = some (.string ⟨l.toArray⟩)
  bad : w.cell? ⟨b, 1, none⟩ = some (.int .i64 (f : Int))
  free0 : w.frozen? ⟨b, 0, none⟩ = false
  free1 : w.frozen? ⟨b, 1, none⟩ = false
theorem Rd.lt {w : World} {b : Nat} {l : List UInt8} {f : Nat} (h : Rd w b l f) : b < w.heap.size := World.block_lt_of_cell? w ⟨b, 0, none⟩ h.left
theorem Rd.below {w w' : World} {b : Nat} {l : List UInt8} {f B : Nat} (h : Rd w b l f) (hb : Below B w w') (hB : b < B) : Rd w' b l f :=
  ⟨(hb.cell (p := ⟨b, 0, none⟩) hB).trans h.left, (hb.cell (p := ⟨b, 1, none⟩) hB).trans h.bad, (hb.frozen (p := ⟨b, 0, none⟩) hB).trans h.free0, (hb.frozen (p := ⟨b, 1, none⟩) hB).trans h.free1⟩

/-- Behind a number: what is told, what is left, what is wrong. -/
def took (l : List UInt8) (n : Nat) (m : List UInt8) (x : Nat) : Nat × List UInt8 × Nat := if x = 0 then (n, m, 0) else (0, l, x)
theorem mk_size (l : List UInt8) : (⟨l.toArray⟩ : ByteArray).size = l.length := by simp [ByteArray.size]
theorem mk_data (l : List UInt8) : (⟨l.toArray⟩ : ByteArray).data.toList = l := by simp

/-- What 'Int' does to a reader. -/
def rdInt (l : List UInt8) (f : Nat) : Nat × List UInt8 × Nat := if f = 0 then took l (Pk.num l).1 (Pk.num l).2.1 (Pk.num l).2.2 else (0, l, f)
theorem num_len (l : List UInt8) : (Pk.num l).2.1.length ≤ l.length := by
  unfold Pk.num
  split
  · simp
  · split
    · simp
    · split
      · simp
      · simp
theorem rdInt_len (l : List UInt8) (f : Nat) : (rdInt l f).2.1.length ≤ l.length := by
  unfold rdInt took; split
  · split
    · exact num_len l
    · simp
  · simp
/-- What 'End' tells. -/
def rdEnd (l : List UInt8) (f : Nat) : Nat := if f = 0 then (if l.length = 0 then 0 else 3) else f
end Go.Proofs.YthlhopdlkkeohaaGreatDoor
/- What was told is read again: the walks of Many and Text over a reader whose text begins so. -/
namespace Go.Proofs.YthlhopdlkkeohaaGreatDoor
open Go.RowKit

theorem below_new (w : World) (o : Obj) : Below w.heap.size w (w.alloc o) := (Below.refl _ w).alloc (Nat.le_refl _) o
theorem But.new {b : Nat} {A W : World} (h : But b A W) (o : Obj) : But b A (W.alloc o) := h.trans (But.of (below_new W o))
theorem Rd.blk {w w' : World} {b : Nat} {l : List UInt8} {f : Nat} (h : Rd w b l f) (hb : w'.heap[b]? = w.heap[b]?) : Rd w' b l f :=
  ⟨(World.cell?_of_block (w := w) hb).trans h.left, (World.cell?_of_block (w := w) hb).trans h.bad, (World.frozen?_of_block (w := w) hb).trans h.free0, (World.frozen?_of_block (w := w) hb).trans h.free1⟩
theorem Rd.on {w w' : World} {b : Nat} {l : List UInt8} {f : Nat} (h : Rd w b l f) (hb : Below w.heap.size w w') : Rd w' b l f := h.below hb h.lt
theorem Rd.new {w : World} {b : Nat} {l : List UInt8} {f : Nat} (h : Rd w b l f) (o : Obj) : Rd (w.alloc o) b l f := h.on (below_new w o)
theorem Rd.setOther {w : World} {b : Nat} {l : List UInt8} {f : Nat} (h : Rd w b l f) {p : Addr} (hp : p.block ≠ b) (v : Value) : Rd (w.setCell p v) b l f := h.blk (Below.heap_setCell w p v b (Ne.symm hp))

theorem cut_low (m : List UInt8) (n : Nat) : (⟨m.toArray⟩ : ByteArray).extract 0 n = ⟨(m.take n).toArray⟩ := by
  apply ByteArray.ext
  apply Array.toList_inj.1
  simp [ByteArray.data_extract]
/-! ### A row of one's own beside a reader -/
theorem own_but {w w' : World} {B s n g : Nat} {e : TypeId} {v : Value} {xs : List Value} (h : w.ownsRow B e s v n xs) (hb : But g w w') (hg : g < B) : w'.ownsRow B e s v n xs := by
  refine ⟨h.1, ?_⟩
  rcases h.2 with hn | ⟨q, cap, cur, hv, hbq, hq, r⟩
  · exact Or.inl hn
  · exact Or.inr ⟨q, cap, cur, hv, hbq, (hb.block q (Array.getElem?_eq_some_iff.1 hq).1 (by omega)).trans hq, r⟩
theorem But.grown {b : Nat} {A W W' : World} {row : Option Nat} (h : But b A W) (hg : W.grownBy W' row) (hr : ∀ g, row = some g → A.heap.size ≤ g) : But b A W' :=
  ⟨hg.os.trans h.os, hg.tape.trans h.tape, hg.output.trans h.output, Nat.le_trans h.size hg.size, fun k hk hne => (hg.block k (Nat.lt_of_lt_of_le hk h.size) (fun e => by have := hr k e.symm; omega)).trans (h.block k hk hne)⟩
theorem Rd.grown {w w' : World} {b : Nat} {l : List UInt8} {f : Nat} {row : Option Nat} (h : Rd w b l f) (hg : w.grownBy w' row) (hne : some b ≠ row) : Rd w' b l f := h.blk (hg.block b h.lt hne)

end Go.Proofs.YthlhopdlkkeohaaGreatDoor
/- The walks of the program's Compare and of the document's. -/
namespace Go.Proofs.YthlhopdlkkeohaaGreatDoor.U
open Go.RowKit

theorem wrap_i64 {e : Int} (h : -9223372036854775808 ≤ e) (h' : e < 9223372036854775808) : IntKind.i64.wrap e = e := by
  simp [IntKind.wrap, IntKind.signed, IntKind.bits]; try split
  all_goals omega
/-! ### The document's -/
theorem ints_any (x y : Int) (w : World) : Calls Tryz.prog 96 #[.int .i64 x, .int .i64 y] w fun e w' => e = .returned (.int .i64 (Lib.compareInt x y)) ∧ w' = w := by
  by_cases h : x < y
  · rw [show Lib.compareInt x y = -1 by unfold Lib.compareInt; rw [if_pos h]]
    go_enter Tryz.func96, Tryz.ntmps96
    go_wp2
    go_ret
    exact ⟨rfl, rfl⟩
  · by_cases h' : y < x
    · rw [show Lib.compareInt x y = 1 by unfold Lib.compareInt; rw [if_neg h, if_pos h']]
      go_enter Tryz.func96, Tryz.ntmps96
      go_wp2
      go_ret
      exact ⟨rfl, rfl⟩
    · rw [show Lib.compareInt x y = 0 by unfold Lib.compareInt; rw [if_neg h, if_neg h']]
      go_enter Tryz.func96, Tryz.ntmps96
      go_wp2
      go_ret
      exact ⟨rfl, rfl⟩

theorem drop_consC {s : ByteArray} {pos : Nat} (h : pos < s.size) : s.data.toList.drop pos = s[pos] :: s.data.toList.drop (pos + 1) := by
  rw [List.drop_eq_getElem_cons (by rw [size_len]; exact h)]
  rfl
/-- How far two texts are alike. -/
def likeTo (a b : List UInt8) (k : Nat) : Prop := k ≤ a.length ∧ k ≤ b.length ∧ Lib.compareBytes a b = Lib.compareBytes (a.drop k) (b.drop k)
theorem likeTo_zero (a b : List UInt8) : likeTo a b 0 := ⟨by omega, by omega, by simp⟩
theorem likeTo_succ {s t : ByteArray} {k : Nat} (h : likeTo s.data.toList t.data.toList k) (h1 : k < s.size) (h2 : k < t.size) (e : s[k] = t[k]) : likeTo s.data.toList t.data.toList (k + 1) := by
  refine ⟨by rw [size_len]; omega, by rw [size_len]; omega, ?_⟩
  rw [h.2.2, drop_consC h1, drop_consC h2, e]
  simp [Lib.compareBytes]
theorem likeTo_diff {s t : ByteArray} {k : Nat} (h : likeTo s.data.toList t.data.toList k) (h1 : k < s.size) (h2 : k < t.size) (e : s[k] ≠ t[k]) : Lib.compareBytes s.data.toList t.data.toList = Lib.compareInt (s[k].toNat : Int) (t[k].toNat : Int) := by
  rw [h.2.2, drop_consC h1, drop_consC h2]
  have : s[k].toNat ≠ t[k].toNat := fun x => e (UInt8.toNat_inj.1 x)
  simp only [Lib.compareBytes, Lib.compareInt, UInt8.lt_iff_toNat_lt]
  by_cases h3 : s[k].toNat < t[k].toNat
  · rw [if_pos h3, if_pos (by omega)]
  · rw [if_neg h3, if_pos (by omega), if_neg (by omega), if_pos (by omega)]
theorem likeTo_end {s t : ByteArray} {k : Nat} (h : likeTo s.data.toList t.data.toList k) (hk : ¬ (k < s.size ∧ k < t.size)) : Lib.compareBytes s.data.toList t.data.toList = Lib.compareInt (s.size : Int) (t.size : Int) := by
  obtain ⟨h1, h2, h3⟩ := h
  rw [size_len] at h1 h2
  rw [h3]
  by_cases e : k < s.size
  · have e2 : k = t.size := by omega
    rw [drop_consC e, show t.data.toList.drop k = [] from List.drop_eq_nil_of_le (by rw [size_len]; omega)]
    simp only [Lib.compareBytes, Lib.compareInt]
    rw [if_neg (by omega), if_pos (by omega)]
  · rw [show s.data.toList.drop k = [] from List.drop_eq_nil_of_le (by rw [size_len]; omega)]
    by_cases e2 : k < t.size
    · rw [drop_consC e2]
      simp only [Lib.compareBytes, Lib.compareInt]
      rw [if_pos (by omega)]
    · rw [show t.data.toList.drop k = [] from List.drop_eq_nil_of_le (by rw [size_len]; omega)]
      simp only [Lib.compareBytes, Lib.compareInt]
      rw [if_neg (by omega), if_neg (by omega)]

set_option maxRecDepth 20000 in
set_option maxHeartbeats 2000000 in
theorem refTexts_any (s t : ByteArray) (w : World) (hs : s.size ≤ 2000000) :
    Calls Tryz.prog 58 #[.string s, .string t] w fun e w' => e = .returned (.int .i64 (Lib.compareBytes s.data.toList t.data.toList)) ∧ Below w.heap.size w w' := by
  go_enter Tryz.func58, Tryz.ntmps58
  go_wp2
  go_loopw [5] (fun i wr => ∃ k : Nat, i = .int .i64 k ∧ likeTo s.data.toList t.data.toList k ∧ Below w.heap.size w wr) (fun i _ => s.size - (intOf i).toNat)
  case atStart => exact ⟨0, rfl, likeTo_zero _ _, Below.refl _ w⟩
  case round =>
    obtain ⟨k, rfl, hR, hbw⟩ := hrel
    have hl1 := hR.1
    have hl2 := hR.2.1
    rw [size_len] at hl1 hl2
    by_cases h1 : k < s.size
    · by_cases h2 : k < t.size
      · by_cases e : s[k] = t[k]
        · have HR : Hid (likeTo s.data.toList t.data.toList (k + 1)) := by
            have h := likeTo_succ hR h1 h2 e
            exact h
          have en : (((s[k]).toNat : Int) != ((t[k]).toNat : Int)) = false := by rw [e]; simp
          clear hR e
          go_wp2
          go_region
          all_goals
            go_wp2
            go_roundw
            case rel => exact ⟨k + 1, by go_num, HR.out, hbw.drew⟩
            case measure => simp [intOf]; omega
        · have HL : Hid (Lib.compareBytes s.data.toList t.data.toList = Lib.compareInt (s[k].toNat : Int) (t[k].toNat : Int)) := by
            have h := likeTo_diff hR h1 h2 e
            exact h
          have hn : s[k].toNat ≠ t[k].toNat := fun x => e (UInt8.toNat_inj.1 x)
          have en : (((s[k]).toNat : Int) != ((t[k]).toNat : Int)) = true := by simp; omega
          have hw1 : IntKind.i64.wrap (s[k].toNat : Int) = (s[k].toNat : Int) := wrap_i64 (by omega) (by have := s[k].toNat_lt; omega)
          have hw2 : IntKind.i64.wrap (t[k].toNat : Int) = (t[k].toNat : Int) := wrap_i64 (by omega) (by have := t[k].toNat_lt; omega)
          have HC : ∀ W, Calls Tryz.prog 96 #[.int .i64 (IntKind.i64.wrap (s[k].toNat : Int)), .int .i64 (IntKind.i64.wrap (t[k].toNat : Int))] W fun e w' => e = .returned (.int .i64 (Lib.compareBytes s.data.toList t.data.toList)) ∧ w' = W := fun W => by
            rw [hw1, hw2, HL.out]; exact ints_any _ _ W
          clear hR e hw1 hw2 HL
          go_wp2
          go_region
          all_goals
            go_wp2_with fail
            go_region_held3 (fun _ => True) (trivial) (first | (go_at_call 96; refine (HC _).mono ?_; rintro e w1 ⟨rfl, rfl⟩))
            all_goals first
              | (go_ret; exact ⟨rfl, hbw.drew.drew⟩)
              | (go_wp2; go_ret; exact ⟨rfl, hbw.drew.drew⟩)
              | (go_wp2; all_goals (go_ret; exact ⟨rfl, hbw.drew.drew⟩))
      · have HL : Hid (Lib.compareBytes s.data.toList t.data.toList = Lib.compareInt (s.size : Int) (t.size : Int)) := by
          have h := likeTo_end hR (by omega)
          exact h
        clear hR
        go_wp2_with (go_at_call 96; refine (ints_any _ _ _).mono ?_; rintro e w1 ⟨rfl, rfl⟩)
        go_ret
        exact ⟨by rw [HL.out]; rfl, hbw⟩
    · have HL : Hid (Lib.compareBytes s.data.toList t.data.toList = Lib.compareInt (s.size : Int) (t.size : Int)) := by
        have h := likeTo_end hR (by omega)
        exact h
      clear hR
      go_wp2_with (go_at_call 96; refine (ints_any _ _ _).mono ?_; rintro e w1 ⟨rfl, rfl⟩)
      go_ret
      exact ⟨by rw [HL.out]; rfl, hbw⟩

theorem refTexts_list (a b : List UInt8) (w : World) (ha : a.length ≤ 2000000) : Calls Tryz.prog 58 #[.string ⟨a.toArray⟩, .string ⟨b.toArray⟩] w fun e w' => e = .returned (.int .i64 (Lib.compareBytes a b)) ∧ Below w.heap.size w w' :=
  refTexts_any ⟨a.toArray⟩ ⟨b.toArray⟩ w (by rw [mk_size]; exact ha)

end Go.Proofs.YthlhopdlkkeohaaGreatDoor.U
/- The walks of cmp.Compare of texts, of slices.Compare, Compare and the document's Compare. -/
namespace Go.Proofs.YthlhopdlkkeohaaGreatDoor.U
open Go.RowKit

/-- How far two paths are alike. -/
def stand (xs ys : List (List UInt8)) (k : Nat) : Prop := k ≤ xs.length ∧ k ≤ ys.length ∧ Pt.comp xs ys = Pt.comp (xs.drop k) (ys.drop k)
theorem stand_zero (xs ys : List (List UInt8)) : stand xs ys 0 := ⟨by omega, by omega, by simp⟩
theorem stand_succ {xs ys : List (List UInt8)} {k : Nat} (h : stand xs ys k) (h1 : k < xs.length) (h2 : k < ys.length) (e : Lib.compareBytes xs[k] ys[k] = 0) : stand xs ys (k + 1) := by
  refine ⟨by omega, by omega, ?_⟩
  rw [h.2.2, List.drop_eq_getElem_cons h1, List.drop_eq_getElem_cons h2]
  simp only [Pt.comp]
  rw [if_pos e]
theorem stand_diff {xs ys : List (List UInt8)} {k : Nat} (h : stand xs ys k) (h1 : k < xs.length) (h2 : k < ys.length) (e : Lib.compareBytes xs[k] ys[k] ≠ 0) : Pt.comp xs ys = Lib.compareBytes xs[k] ys[k] := by
  rw [h.2.2, List.drop_eq_getElem_cons h1, List.drop_eq_getElem_cons h2]
  simp only [Pt.comp]
  rw [if_neg e]
theorem drop_all {xs : List (List UInt8)} {k : Nat} (h : ¬ k < xs.length) : xs.drop k = [] := List.drop_eq_nil_of_le (by omega)
theorem stand_more {xs ys : List (List UInt8)} {k : Nat} (h : stand xs ys k) (h1 : k < xs.length) (h2 : ¬ k < ys.length) : Pt.comp xs ys = 1 := by
  rw [h.2.2, List.drop_eq_getElem_cons h1, drop_all h2]; rfl
theorem stand_less {xs ys : List (List UInt8)} {k : Nat} (h : stand xs ys k) (h1 : ¬ k < xs.length) (h2 : k < ys.length) : Pt.comp xs ys = -1 := by
  rw [h.2.2, List.drop_eq_getElem_cons h2, drop_all h1]; rfl
theorem stand_same {xs ys : List (List UInt8)} {k : Nat} (h : stand xs ys k) (h1 : ¬ k < xs.length) (h2 : ¬ k < ys.length) : Pt.comp xs ys = 0 := by
  rw [h.2.2, drop_all h1, drop_all h2]; rfl

theorem ret_int {a b : Int} (h : a = b) : Ending.returned (.int .i64 a) = .returned (.int .i64 b) := by rw [h]

/-- Two texts lie in memory. -/
structure Two (w : World) (p q : Addr) (x y : List UInt8) (W : World) : Prop where
  a : W.cell? p = some (.string ⟨x.toArray⟩)
  b : W.cell? q = some (.string ⟨y.toArray⟩)
  below : Below w.heap.size w W
theorem Two.on {w W W' : World} {p q : Addr} {x y : List UInt8} (h : Two w p q x y W) (hb : Below W.heap.size W W') : Two w p q x y W' :=
  ⟨(hb.cell (World.block_lt_of_cell? _ _ h.a)).trans h.a, (hb.cell (World.block_lt_of_cell? _ _ h.b)).trans h.b, h.below.trans (hb.mono h.below.size)⟩
theorem Two.drew {w W : World} {p q : Addr} {x y : List UInt8} (h : Two w p q x y W) : Two w p q x y W.drew := ⟨h.a, h.b, h.below.drew⟩
theorem Two.parts {w W : World} {p q : Addr} {x y : List UInt8} (h : Two w p q x y W) : W.cell? p = some (.string ⟨x.toArray⟩) ∧ W.cell? q = some (.string ⟨y.toArray⟩) ∧ Below w.heap.size w W := ⟨h.a, h.b, h.below⟩

set_option maxRecDepth 20000 in
set_option maxHeartbeats 2000000 in
theorem refCompare_any (va vb : Value) (xs ys : List (List UInt8)) (w : World) (hx : xs.length ≤ 2000000) (_hy : ys.length ≤ 2000000) (hz : ∀ x ∈ xs, x.length ≤ 2000000) (ha : strsAt w va xs) (hb : strsAt w vb ys) :
    Calls Tryz.prog 22 #[va, vb] w fun e w' => e = .returned (.int .i64 (Pt.comp xs ys)) ∧ Below w.heap.size w w' := by
  obtain ⟨ao, ca, rfl, _, hca⟩ := ha
  obtain ⟨bo, cb, rfl, _, hcb⟩ := hb
  go_enter Tryz.func22, Tryz.ntmps22
  go_wp2
  go_loopw [5] (fun i wr => ∃ k : Nat, i = .int .i64 k ∧ stand xs ys k ∧ Below w.heap.size w wr) (fun i _ => xs.length - (intOf i).toNat)
  case atStart => exact ⟨0, rfl, stand_zero _ _, Below.refl _ w⟩
  case round =>
    obtain ⟨k, rfl, hS, hbw⟩ := hrel
    have hk1 := hS.1
    have hk2 := hS.2.1
    by_cases h1 : k < xs.length
    · by_cases h2 : k < ys.length
      · obtain ⟨ad, rfl, hA⟩ := hca k h1
        obtain ⟨bd, rfl, hB⟩ := hcb k h2
        have hA2 : ∀ W, Below w.heap.size w W → W.cell? (ad.add k) = some (.string ⟨(xs[k]).toArray⟩) := fun W hW => (hW.cell (World.block_lt_of_cell? _ _ hA)).trans hA
        have hB2 : ∀ W, Below w.heap.size w W → W.cell? (bd.add k) = some (.string ⟨(ys[k]).toArray⟩) := fun W hW => (hW.cell (World.block_lt_of_cell? _ _ hB)).trans hB
        have a1 := hA2 wr hbw
        have b1 := hB2 wr hbw
        clear hca hA hcb hB hA2 hB2
        have HC := fun W => refTexts_list xs[k] ys[k] W (hz _ (List.getElem_mem h1))
        clear hz
        by_cases he : Lib.compareBytes xs[k] ys[k] = 0
        · have HS : Hid (stand xs ys (k + 1)) := stand_succ hS h1 h2 he
          rw [he] at HC
          clear hS he
          generalize xs[k] = x at *
          generalize ys[k] = y at *
          go_wp2_with fail
          go_region_held3 (fun W => W.cell? (ad.add k) = some (.string ⟨x.toArray⟩) ∧ W.cell? (bd.add k) = some (.string ⟨y.toArray⟩) ∧ Below w.heap.size w W) (first | exact ⟨a1, b1, hbw⟩ | exact (Two.drew ⟨a1, b1, hbw⟩).parts | exact ((Two.drew ⟨a1, b1, hbw⟩).on hb1).parts) (first | (go_at_call 58; (refine (HC _).mono ?_); rintro e w1 ⟨rfl, hb1⟩))
          all_goals
            go_wp2
            go_roundw
            case rel => exact ⟨k + 1, by go_num, HS.out, (by first | exact hbw.drew.trans (hb1.mono hbw.drew.size) | exact (hbw.drew.trans (hb1.mono hbw.drew.size)).drew)⟩
            case measure => simp [intOf]; omega
        · have HL : Hid (Lib.compareBytes xs[k] ys[k] = Pt.comp xs ys) := (stand_diff hS h1 h2 he).symm
          have hc := Pt.cb_cases xs[k] ys[k]
          have hn : (Lib.compareBytes xs[k] ys[k] != 0) = true := by simpa using he
          clear hS
          generalize xs[k] = x at *
          generalize ys[k] = y at *
          generalize Lib.compareBytes x y = c at *
          go_wp2_with fail
          go_region_held3 (fun W => W.cell? (ad.add k) = some (.string ⟨x.toArray⟩) ∧ W.cell? (bd.add k) = some (.string ⟨y.toArray⟩) ∧ Below w.heap.size w W) (first | exact ⟨a1, b1, hbw⟩ | exact (Two.drew ⟨a1, b1, hbw⟩).parts | exact ((Two.drew ⟨a1, b1, hbw⟩).on hb1).parts) (first | (go_at_call 58; (refine (HC _).mono ?_); rintro e w1 ⟨rfl, hb1⟩))
          all_goals
            go_wp2
            go_ret
            exact ⟨ret_int HL.out, (by first | exact hbw.drew.trans (hb1.mono hbw.drew.size) | exact (hbw.drew.trans (hb1.mono hbw.drew.size)).drew)⟩
      · have HL : Hid (Pt.comp xs ys = 1) := stand_more hS h1 h2
        clear hS hcb hca hz
        go_wp2
        go_ret
        exact ⟨ret_int HL.out.symm, hbw⟩
    · by_cases h2 : k < ys.length
      · have HL : Hid (Pt.comp xs ys = -1) := stand_less hS h1 h2
        clear hS hcb hca hz
        go_wp2
        go_ret
        exact ⟨ret_int HL.out.symm, hbw⟩
      · have HL : Hid (Pt.comp xs ys = 0) := stand_same hS h1 h2
        clear hS hcb hca hz
        go_wp2
        go_ret
        exact ⟨ret_int HL.out.symm, hbw⟩

end Go.Proofs.YthlhopdlkkeohaaGreatDoor.U
