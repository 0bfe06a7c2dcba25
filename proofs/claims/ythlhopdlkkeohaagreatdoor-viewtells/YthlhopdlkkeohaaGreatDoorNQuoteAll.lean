/- The walk of quoted (of a text that is UTF-8) · The walks of the program's fits and Right, and of the document's Right · The walk of value.Text, of a right value · The walks of the document's Text (of a right value), and of both Codes · The walks of the two 'Split' · The walk of 'each' with name.Quote and with pack.Text: what a function answers to each part, in a row of its own · strings.Join, which lies proved over any program: laid at this program; at a row of one's own. -/
import Derived.Test.YthlhopdlkkeohaaGreatDoorLCompactAll
import Derived.Test.YthlhopdlkkeohaaGreatDoorERefAtAll
import Derived.Test.YthlhopdlkkeohaaGreatDoorBuilderAll
import Derived.Test.YthlhopdlkkeohaaGreatDoorQuotesAll
import Derived.Test.YthlhopdlkkeohaaGreatDoorPathsAll
import Derived.OwnWalk
import Derived.Shelf.Strings.OnBuilder
import Derived.Test.YthlhopdlkkeohaaGreatDoorChecked
/- The walk of quoted (of a text that is UTF-8). -/
namespace Go.Proofs.YthlhopdlkkeohaaGreatDoor.N
open Go.RowKit

/-- The byte in front of what is quoted; the character is that byte. -/
theorem isQN_byte {l : List UInt8} (hne : l ≠ []) (h : Nq.isQN (Lib.decodeL l).1 = true) : ∃ b t, l = b :: t ∧ Nq.isQ b = true ∧ (Lib.decodeL l).2 = 1 ∧ b.toNat = (Lib.decodeL l).1 := by
  cases l with
  | nil => exact absurd rfl hne
  | cons b t =>
    rcases Nm.chunk (b :: t) hne with ⟨h1, h2⟩ | ⟨_, h2, _⟩
    · rw [h2] at h
      simp only [List.getD_cons_zero] at h h1 h2
      refine ⟨b, t, rfl, ?_, by rw [h2], by rw [h2]⟩
      simp only [Nq.isQN, Bool.or_eq_true, beq_iff_eq] at h
      simp only [Nq.isQ, Bool.or_eq_true, beq_iff_eq]
      rcases h with h | h
      · left; exact UInt8.toNat_inj.1 h
      · right; exact UInt8.toNat_inj.1 h
    · simp only [Nq.isQN, Bool.or_eq_true, beq_iff_eq] at h
      omega
/-- No byte of another character is a quote or an escape. -/
theorem isQN_none {l : List UInt8} (hne : l ≠ []) (h : Nq.isQN (Lib.decodeL l).1 = false) : ∀ x ∈ l.take (Lib.decodeL l).2, Nq.isQ x = false := by
  rcases Nm.chunk l hne with ⟨h1, h2⟩ | ⟨_, _, h3⟩
  · intro x hx
    rw [h2] at h hx
    cases l with
    | nil => exact absurd rfl hne
    | cons b t =>
      simp only [List.getD_cons_zero] at h
      simp at hx
      subst hx
      simp only [Nq.isQN, Bool.or_eq_false_iff, beq_eq_false_iff_ne] at h
      simp only [Nq.isQ, Bool.or_eq_false_iff, beq_eq_false_iff_ne]
      refine ⟨fun e => h.1 (by rw [e]; rfl), fun e => h.2 (by rw [e]; rfl)⟩
  · intro x hx
    exact Nq.isQ_high (h3 x hx)
/-- Where a walk through the characters stands: what is written, what is still to read. -/
def quoAt (l : List UInt8) (pos : Nat) (acc : List UInt8) : Prop := pos ≤ l.length ∧ acc.length ≤ 2 * pos + 1 ∧ Vl.utf (l.drop pos) = true ∧ 34 :: Nq.quote l = acc ++ Nq.quote (l.drop pos)
theorem quoAt_zero {l : List UInt8} (h : Vl.utf l = true) : quoAt l 0 [34] := ⟨by omega, by simp, by simpa using h, by simp⟩
theorem quoAt_step {l : List UInt8} {pos : Nat} {acc : List UInt8} (h : quoAt l pos acc) (hne : l.drop pos ≠ []) (hq : Nq.isQN (Lib.decodeL (l.drop pos)).1 = false) : quoAt l (pos + (Lib.decodeL (l.drop pos)).2) (acc ++ Lib.encodeRune ((Lib.decodeL (l.drop pos)).1 : Int)) := by
  have h1 := Lib.decodeL_le _ hne
  have hw := Lib.decodeL_width (l.drop pos)
  rw [List.length_drop] at h1
  obtain ⟨a1, a2, a3, a4⟩ := h
  obtain ⟨hb, hr⟩ := Vl.runes_some hne a3
  rw [Lib.encode_decode _ hne (Nm.not_bad hb)]
  refine ⟨by omega, ?_, by rw [Nm.drop_rest] at hr; exact hr, ?_⟩
  · rw [List.length_append, List.length_take, List.length_drop]; omega
  · have e : Nq.quote (l.drop pos) = (l.drop pos).take (Lib.decodeL (l.drop pos)).2 ++ Nq.quote (l.drop (pos + (Lib.decodeL (l.drop pos)).2)) := by
      conv => lhs; rw [← List.take_append_drop (Lib.decodeL (l.drop pos)).2 (l.drop pos)]
      rw [Nq.quote_append, Nq.quote_high (isQN_none hne hq), List.drop_drop]
    rw [a4, e]
    simp
theorem quoAt_esc {l : List UInt8} {pos : Nat} {acc : List UInt8} (h : quoAt l pos acc) (hne : l.drop pos ≠ []) (hq : Nq.isQN (Lib.decodeL (l.drop pos)).1 = true) : quoAt l (pos + (Lib.decodeL (l.drop pos)).2) (acc ++ [92] ++ Lib.encodeRune ((Lib.decodeL (l.drop pos)).1 : Int)) := by
  have h1 := Lib.decodeL_le _ hne
  rw [List.length_drop] at h1
  obtain ⟨b, t, e1, e2, e3, e5⟩ := isQN_byte hne hq
  obtain ⟨a1, a2, a3, a4⟩ := h
  obtain ⟨hb, hr⟩ := Vl.runes_some hne a3
  rw [Lib.encode_decode _ hne (Nm.not_bad hb)]
  rw [Nm.drop_rest] at hr
  rw [e3] at h1 hr ⊢
  have e4 : l.drop (pos + 1) = t := by rw [← List.drop_drop, e1]; rfl
  refine ⟨by omega, ?_, hr, ?_⟩
  · simp only [List.length_append, List.length_take, List.length_singleton]
    omega
  · rw [e4, a4, e1, Nq.quote_cons, if_pos e2]
    simp
theorem quoAt_end {l : List UInt8} {pos : Nat} {acc : List UInt8} (h : quoAt l pos acc) (hn : l.drop pos = []) : Vl.quoted l = acc ++ [34] := by
  obtain ⟨a1, a2, a3, a4⟩ := h
  rw [hn, Nq.quote_nil, List.append_nil] at a4
  rw [← a4]; rfl

set_option maxRecDepth 100000 in
set_option maxHeartbeats 4000000 in
theorem quoted_any (s : ByteArray) (w : World) (hs : s.size ≤ 2000000) (hu : Vl.utf s.data.toList = true) :
    Calls Tryz.prog 129 #[.string s] w fun e w' => e = .returned (.string ⟨(Vl.quoted s.data.toList).toArray⟩) ∧ Below w.heap.size w w' := by
  have H0 := Lib.IsBuilderF.of (Lib.fresh_isBuilder 102 5 w)
  have HU : Hid (quoAt s.data.toList 0 [34]) := by have h := quoAt_zero hu; exact h
  clear hu
  go_enter Tryz.func129, Tryz.ntmps129
  go_wp2_with (first | (go_at_call 51; refine (U.writeByte_any w.heap.size w.heap.size _ 34 _ H0 (by simp) (by simp)).mono ?_) | go_in)
  rintro e W0 ⟨rfl, h0, b0, k0⟩
  have hsz0 := b0.size
  have hB0 : Below w.heap.size w W0 := ((Below.refl _ w).alloc (Nat.le_refl _) _).trans b0
  clear b0 k0 H0
  have hg : w.heap.size < W0.heap.size := by simp at hsz0; omega
  go_wp2
  go_loopw [] (fun wr => ∃ (pos : Nat) (acc : List UInt8), Lib.IsBuilderF 102 5 w.heap.size w.heap.size (Lib.byteCells acc) wr ∧ wr.heap[W0.heap.size]? = some (.stringIter s pos) ∧ Below w.heap.size w wr ∧ quoAt s.data.toList pos acc) (fun wr => s.size - wr.iterPos W0.heap.size)
  case atStart =>
    refine ⟨0, [34], ?_, ?_, hB0.alloc (by omega) _, HU.out⟩
    · have h1 : Lib.IsBuilderF 102 5 w.heap.size w.heap.size (Lib.byteCells [34]) W0 := h0
      exact h1.alloc _
    · have := World.iter_heap W0 s 0
      simpa using this
  case round =>
    obtain ⟨pos, acc, hI, hit, hbw, hR⟩ := hrel
    have hsz : W0.heap.size < wr.heap.size := U.heap_lt hit
    have hpl := hR.1
    rw [size_len] at hpl
    have hal := hR.2.1
    by_cases hp : pos < s.size
    · have hnx : ∀ ty, (Instr.next (.pointer (some ⟨W0.heap.size, 0, none⟩)) true ty).run Tryz.prog wr = _ := fun ty => Lib.run_next_any_at wr W0.heap.size s pos ty hit hp
      have HE : Hid (s.data.toList.drop pos ≠ []) := U.drop_ne hp
      have HD : Hid (Lib.decodeL (s.data.toList.drop pos) = Utf8.decode s pos) := Lib.decodeL_drop s pos
      have hd1 := decode_le s pos
      have hwd : 1 ≤ (Utf8.decode s pos).2 := by rw [← HD.out]; exact Lib.decodeL_width _
      have hI2 := hI.iterAt hit (pos + (Utf8.decode s pos).2)
      have hit2 := Lib.iterAt_heap wr W0.heap.size s pos (pos + (Utf8.decode s pos).2) hit
      have hbw2 := Lib.below_iterAt hbw (k := W0.heap.size) (by omega) s (pos + (Utf8.decode s pos).2)
      have hsz2 : w.heap.size ≤ (wr.iterAt W0.heap.size s (pos + (Utf8.decode s pos).2)).heap.size := by rw [Lib.iterAt_size]; omega
      cases hq : Nq.isQN (Utf8.decode s pos).1 with
      | false =>
        have HR : Hid (quoAt s.data.toList (pos + (Utf8.decode s pos).2) (acc ++ Lib.encodeRune ((Utf8.decode s pos).1 : Int))) := by
          have h := quoAt_step hR HE.out (by rw [HD.out]; exact hq)
          rw [HD.out] at h
          exact h
        clear hR
        have q1 : (((Utf8.decode s pos).1 : Int) == 34) = false := by
          simp only [Nq.isQN, Bool.or_eq_false_iff, beq_eq_false_iff_ne] at hq
          exact beq_eq_false_iff_ne.2 (by omega)
        have q2 : (((Utf8.decode s pos).1 : Int) == 92) = false := by
          simp only [Nq.isQN, Bool.or_eq_false_iff, beq_eq_false_iff_ne] at hq
          exact beq_eq_false_iff_ne.2 (by omega)
        clear hq
        go_wp2_with (first
          | (go_at_call 165; refine (U.writeRune_any w.heap.size w.heap.size _ _ (by omega) (by omega) _ hI2 (by rw [Lib.byteCells_length]; omega) hsz2).mono ?_)
          | go_in)
        rintro e W1 ⟨rfl, h1, b1, k1⟩
        go_wp2
        go_roundw
        case rel =>
          refine ⟨pos + (Utf8.decode s pos).2, acc ++ Lib.encodeRune (Utf8.decode s pos).1, ?_, k1.iter hit2 (by omega), hbw2.trans b1, HR.out⟩
          rw [Lib.byteCells_append, Lib.byteCells_encodeRune]
          exact h1
        case measure =>
          simp only [World.iterPos, k1.iter hit2 (by omega), hit]
          omega
      | true =>
        have HR : Hid (quoAt s.data.toList (pos + (Utf8.decode s pos).2) (acc ++ [92] ++ Lib.encodeRune ((Utf8.decode s pos).1 : Int))) := by
          have h := quoAt_esc hR HE.out (by rw [HD.out]; exact hq)
          rw [HD.out] at h
          exact h
        clear hR
        have q : (Utf8.decode s pos).1 = 34 ∨ (Utf8.decode s pos).1 = 92 := by
          simp only [Nq.isQN, Bool.or_eq_true, beq_iff_eq] at hq
          exact hq
        clear hq
        generalize (Utf8.decode s pos).2 = d at *
        rcases q with q | q
        all_goals
          rw [q] at HR hnx hd1
          clear q HD
          go_wp2_with (first
            | (go_at_call 51; refine (U.writeByte_any w.heap.size w.heap.size _ 92 _ hI2 (by rw [Lib.byteCells_length]; omega) hsz2).mono ?_)
            | go_in)
          rintro e W1 ⟨rfl, h1, b1, k1⟩
          have hit3 := k1.iter hit2 (by omega)
          have hsz3 : w.heap.size ≤ W1.heap.size := Nat.le_trans hsz2 b1.size
          go_wp2_with (first
            | (go_at_call 165; refine (U.writeRune_any w.heap.size w.heap.size _ _ (by omega) (by omega) _ h1 (by simp only [List.length_append, Lib.byteCells_length, List.length_singleton]; omega) hsz3).mono ?_)
            | go_in)
          rintro e W2 ⟨rfl, h2, b2, k2⟩
          have hit4 := k2.iter hit3 (by omega)
          go_wp2
          go_roundw
          case rel =>
            refine ⟨pos + d, _, ?_, hit4, (hbw2.trans b1).trans b2, HR.out⟩
            rw [Lib.byteCells_append, Lib.byteCells_encodeRune, Lib.byteCells_append]
            exact h2
          case measure =>
            simp only [World.iterPos, hit4, hit]
            omega
    · have hnx : ∀ ty, (Instr.next (.pointer (some ⟨W0.heap.size, 0, none⟩)) true ty).run Tryz.prog wr = _ := fun ty => Lib.run_next_end_at wr W0.heap.size s pos ty hit hp
      have HL : Hid (Vl.quoted s.data.toList = acc ++ [34]) := by
        have h := quoAt_end hR (U.drop_nil hp)
        exact h
      clear hR
      go_wp2_with (first
        | (go_at_call 51; refine (U.writeByte_any w.heap.size w.heap.size _ 34 _ hI (by rw [Lib.byteCells_length]; omega) (by omega)).mono ?_)
        | go_in)
      rintro e W1 ⟨rfl, h1, b1, k1⟩
      have h1' : Lib.IsBuilderF 102 5 w.heap.size w.heap.size (Lib.byteCells (acc ++ [34])) W1 := by rw [Lib.byteCells_append]; exact h1
      have hsz3 : w.heap.size ≤ W1.heap.size := Nat.le_trans (by omega) b1.size
      go_wp2_with (first | (go_at_call 52; refine (bString w.heap.size w.heap.size _ _ h1' hsz3).mono ?_) | go_in)
      rintro e W2 ⟨rfl, _, b2, _⟩
      go_wp2
      go_ret
      exact ⟨ret_str (by rw [HL.out]), (hbw.trans b1).trans b2⟩

end Go.Proofs.YthlhopdlkkeohaaGreatDoor.N
/- The walks of the program's fits and Right, and of the document's Right. -/
namespace Go.Proofs.YthlhopdlkkeohaaGreatDoor.V
open Go.RowKit

theorem refRunes_list (l : List UInt8) (w : World) (hs : l.length ≤ 2000000) : Calls Tryz.prog 172 #[.string ⟨l.toArray⟩] w fun e w' => ∃ v, e = .returned (.tuple #[v, .bool (Vl.utf l)]) ∧ Below w.heap.size w w' := by
  refine (U.refRunes_any ⟨l.toArray⟩ w (by rw [mk_size]; exact hs)).mono ?_
  rintro e w' ⟨v, rfl, _, hb⟩
  exact ⟨v, rfl, hb⟩

/-- Within their bounds. -/
def fitB (n : Int) (l : List UInt8) : Bool := decide (-2147483647 ≤ n ∧ n ≤ 2147483647 ∧ l.length ≤ 64) && Vl.utf l
set_option maxRecDepth 20000 in
set_option maxHeartbeats 2000000 in
theorem refRight_any (k n : Int) (l : List UInt8) (w : World) (hl : l.length ≤ 2000000) : Calls Tryz.prog 136 #[valV k n l] w fun e w' => e = .returned (.bool (Vl.right k n l)) ∧ Below w.heap.size w w' := by
  have C := fun w => refRunes_list l w hl
  by_cases h1 : k = 1
  · subst h1
    by_cases h2 : l = []
    · subst h2
      by_cases h3 : -2147483647 ≤ n
      · by_cases h4 : n ≤ 2147483647
        · rw [show Vl.right 1 n [] = true from Vl.right_yes (.inl ⟨rfl, rfl, h3, h4⟩)]
          go_enter Tryz.func136, Tryz.ntmps136
          go_wp2
          go_ret
          exact ⟨rfl, below_new _ _⟩
        · rw [show Vl.right 1 n [] = false from Vl.right_no (by unfold Vl.Right; simp; omega)]
          go_enter Tryz.func136, Tryz.ntmps136
          go_wp2
          go_ret
          exact ⟨rfl, below_new _ _⟩
      · rw [show Vl.right 1 n [] = false from Vl.right_no (by unfold Vl.Right; simp; omega)]
        go_enter Tryz.func136, Tryz.ntmps136
        go_wp2
        go_ret
        exact ⟨rfl, below_new _ _⟩
    · rw [show Vl.right 1 n l = false from Vl.right_no (by unfold Vl.Right; simp [h2])]
      have h2' : (l == []) = false := beq_eq_false_iff_ne.2 h2
      go_enter Tryz.func136, Tryz.ntmps136
      go_wp2
      go_ret
      exact ⟨rfl, below_new _ _⟩
  · have e1 : (k == 1) = false := beq_eq_false_iff_ne.2 h1
    by_cases h2 : k = 2
    · subst h2
      by_cases h3 : n = 0
      · subst h3
        cases hu : Vl.utf l with
        | true =>
          rw [hu] at C
          by_cases h4 : l.length ≤ 64
          · rw [show Vl.right 2 0 l = true from Vl.right_yes (.inr (.inl ⟨rfl, rfl, hu, h4⟩))]
            have h4' : (l.length : Int) ≤ 64 := by omega
            go_enter Tryz.func136, Tryz.ntmps136
            go_wp2_with (go_at_call 172; refine (C _).mono ?_; rintro e w1 ⟨v, rfl, hb⟩; have V1 := (VAt.new w 2 0 l).on hb; have c1 := V1.c1; have c2 := V1.c2)
            go_ret
            exact ⟨rfl, bchain (below_new _ _) hb⟩
          · rw [show Vl.right 2 0 l = false from Vl.right_no (by unfold Vl.Right; simp [h4])]
            have h4' : ¬ (l.length : Int) ≤ 64 := by omega
            go_enter Tryz.func136, Tryz.ntmps136
            go_wp2_with (go_at_call 172; refine (C _).mono ?_; rintro e w1 ⟨v, rfl, hb⟩; have V1 := (VAt.new w 2 0 l).on hb; have c1 := V1.c1; have c2 := V1.c2)
            go_ret
            exact ⟨by show Ending.returned (.bool (decide ((l.length : Int) ≤ 64))) = _; rw [decide_eq_false (by omega)], bchain (below_new _ _) hb⟩
        | false =>
          rw [hu] at C
          rw [show Vl.right 2 0 l = false from Vl.right_no (by unfold Vl.Right; simp [hu])]
          go_enter Tryz.func136, Tryz.ntmps136
          go_wp2_with (go_at_call 172; refine (C _).mono ?_; rintro e w1 ⟨v, rfl, hb⟩; have V1 := (VAt.new w 2 0 l).on hb; have c1 := V1.c1; have c2 := V1.c2)
          go_ret
          exact ⟨rfl, bchain (below_new _ _) hb⟩
      · rw [show Vl.right 2 n l = false from Vl.right_no (by unfold Vl.Right; simp [h3])]
        have h3' : (n == 0) = false := beq_eq_false_iff_ne.2 h3
        go_enter Tryz.func136, Tryz.ntmps136
        go_wp2_with (go_at_call 172; refine (C _).mono ?_; rintro e w1 ⟨v, rfl, hb⟩; have V1 := (VAt.new w 2 n l).on hb; have c1 := V1.c1; have c2 := V1.c2)
        go_ret
        exact ⟨rfl, bchain (below_new _ _) hb⟩
    · have e2 : (k == 2) = false := beq_eq_false_iff_ne.2 h2
      by_cases h3 : k = 3
      · subst h3
        by_cases h4 : l = []
        · subst h4
          by_cases h5 : 0 ≤ n
          · by_cases h6 : n ≤ 1
            · rw [show Vl.right 3 n [] = true from Vl.right_yes (.inr (.inr ⟨rfl, rfl, h5, h6⟩))]
              go_enter Tryz.func136, Tryz.ntmps136
              go_wp2
              go_ret
              exact ⟨rfl, below_new _ _⟩
            · rw [show Vl.right 3 n [] = false from Vl.right_no (by unfold Vl.Right; simp; omega)]
              go_enter Tryz.func136, Tryz.ntmps136
              go_wp2
              go_ret
              exact ⟨rfl, below_new _ _⟩
          · rw [show Vl.right 3 n [] = false from Vl.right_no (by unfold Vl.Right; simp; omega)]
            go_enter Tryz.func136, Tryz.ntmps136
            go_wp2
            go_ret
            exact ⟨rfl, below_new _ _⟩
        · rw [show Vl.right 3 n l = false from Vl.right_no (by unfold Vl.Right; simp [h4])]
          have h4' : (l == []) = false := beq_eq_false_iff_ne.2 h4
          go_enter Tryz.func136, Tryz.ntmps136
          go_wp2
          go_ret
          exact ⟨rfl, below_new _ _⟩
      · rw [show Vl.right k n l = false from Vl.right_no (by unfold Vl.Right; omega)]
        have e3 : (k == 3) = false := beq_eq_false_iff_ne.2 h3
        go_enter Tryz.func136, Tryz.ntmps136
        go_wp2
        go_ret
        exact ⟨rfl, below_new _ _⟩
end Go.Proofs.YthlhopdlkkeohaaGreatDoor.V
/- The walk of value.Text, of a right value. -/
namespace Go.Proofs.YthlhopdlkkeohaaGreatDoor.N
open Go.RowKit

set_option maxRecDepth 20000 in
theorem inside_any (k n : Int) (l : List UInt8) (w : World) : Calls Tryz.prog 128 #[valV k n l] w fun e w' => e = .returned (inV (Vl.inside k n l)) ∧ Below w.heap.size w w' := by
  by_cases h1 : k = 1
  · subst h1
    go_enter Tryz.func128, Tryz.ntmps128
    go_wp2
    go_ret
    exact ⟨rfl, below_new _ _⟩
  · have e1 : (k == 1) = false := beq_eq_false_iff_ne.2 h1
    by_cases h2 : k = 2
    · subst h2
      go_enter Tryz.func128, Tryz.ntmps128
      go_wp2
      go_ret
      exact ⟨rfl, below_new _ _⟩
    · have e2 : (k == 2) = false := beq_eq_false_iff_ne.2 h2
      rw [show Vl.inside k n l = .bool (n == 1) by unfold Vl.inside; rw [if_neg h1, if_neg h2]]
      clear h1 h2
      go_enter Tryz.func128, Tryz.ntmps128
      go_wp2
      go_ret
      exact ⟨rfl, below_new _ _⟩

theorem quoted_list (l : List UInt8) (w : World) (hs : l.length ≤ 2000000) (hu : Vl.utf l = true) : Calls Tryz.prog 129 #[.string ⟨l.toArray⟩] w fun e w' => e = .returned (.string ⟨(Vl.quoted l).toArray⟩) ∧ Below w.heap.size w w' :=
  quoted_any ⟨l.toArray⟩ w (by rw [mk_size]; exact hs) hu
theorem formatBool_list (b : Bool) (w : World) : Calls Tryz.prog 130 #[.bool b] w fun e w' => e = .returned (.string ⟨(if b then Vl.tru else Vl.fls).toArray⟩) ∧ Below w.heap.size w w' := by
  refine (formatBool_any b w).mono ?_
  rintro e w' ⟨rfl, rfl⟩
  rw [Vl.formatBool_eq]
  exact ⟨rfl, Below.refl _ _⟩

set_option maxRecDepth 20000 in
theorem text_right (k n : Int) (l : List UInt8) (w : World) (hk : Keeps w) (h : Vl.Right k n l) : Calls Tryz.prog 89 #[valV k n l] w fun e w' => e = .returned (.string ⟨(Vl.text k n l).toArray⟩) ∧ Below w.heap.size w w' := by
  have hlen := h.len
  have hu := h.utf
  have ham := h.amount
  rcases h with ⟨rfl, rfl, h1, h2⟩ | ⟨rfl, rfl, h1, h2⟩ | ⟨rfl, rfl, h1, h2⟩
  · have C25 : ∀ w, Calls Tryz.prog 128 #[valV 1 n []] w fun e w' => e = .returned (.iface 3 (.int .i64 n)) ∧ Below w.heap.size w w' := fun w => inside_any 1 n [] w
    have C32 := fun w (hk : Keeps w) => itoa_any n w hk (by omega) (by omega)
    have A := as3_3
    rw [show Vl.text 1 n [] = Lib.itoa n from rfl]
    generalize Lib.itoa n = t at *
    go_enter Tryz.func89, Tryz.ntmps89
    go_wp2_with (first
      | (go_at_call 128; refine (C25 _).mono ?_; rintro e w1 ⟨rfl, hb1⟩; have B1 := bchain (below_new w (valO 1 n [])) hb1)
      | (go_at_call 44; refine (C32 _ (hk.on B1)).mono ?_; rintro e w2 ⟨rfl, hb2⟩))
    go_ret
    exact ⟨rfl, bchain B1 hb2⟩
  · have C25 : ∀ w, Calls Tryz.prog 128 #[valV 2 0 l] w fun e w' => e = .returned (.iface 9 (.string ⟨l.toArray⟩)) ∧ Below w.heap.size w w' := fun w => inside_any 2 0 l w
    have C33 := fun w => quoted_list l w (by omega) hu
    have A := as9_3
    have B := as9_9
    rw [Vl.text_str]
    generalize Vl.quoted l = t at *
    go_enter Tryz.func89, Tryz.ntmps89
    go_wp2_with (first
      | (go_at_call 128; refine (C25 _).mono ?_; rintro e w1 ⟨rfl, hb1⟩; have B1 := bchain (below_new w (valO 2 0 l)) hb1)
      | (go_at_call 129; refine (C33 _).mono ?_; rintro e w2 ⟨rfl, hb2⟩))
    go_ret
    exact ⟨rfl, bchain B1 hb2⟩
  · have C25 : ∀ w, Calls Tryz.prog 128 #[valV 3 n []] w fun e w' => e = .returned (.iface 4 (.bool (n == 1))) ∧ Below w.heap.size w w' := fun w => inside_any 3 n [] w
    have C34 := formatBool_list (n == 1)
    have A := as4_3
    have B := as4_9
    have C := as4_4
    rw [show (if (n == 1) = true then Vl.tru else Vl.fls) = Vl.text 3 n [] by rw [show Vl.text 3 n [] = (if n = 1 then Vl.tru else Vl.fls) from rfl]; by_cases e : n = 1 <;> simp [e]] at C34
    generalize Vl.text 3 n [] = t at *
    generalize (n == 1) = q at *
    go_enter Tryz.func89, Tryz.ntmps89
    go_wp2_with (first
      | (go_at_call 128; refine (C25 _).mono ?_; rintro e w1 ⟨rfl, hb1⟩; have B1 := bchain (below_new w (valO 3 n [])) hb1)
      | (go_at_call 130; refine (C34 _).mono ?_; rintro e w2 ⟨rfl, hb2⟩))
    go_ret
    exact ⟨rfl, bchain B1 hb2⟩


end Go.Proofs.YthlhopdlkkeohaaGreatDoor.N
/- The walks of the document's Text (of a right value), and of both Codes. -/
namespace Go.Proofs.YthlhopdlkkeohaaGreatDoor.N
open Go.RowKit

theorem isQ_iff {b : UInt8} : Nq.isQ b = true ↔ b = 34 ∨ b = 92 := by simp [Nq.isQ]
theorem drop_cons' {s : ByteArray} {pos : Nat} (h : pos < s.size) : s.data.toList.drop pos = s[pos] :: s.data.toList.drop (pos + 1) := by
  rw [List.drop_eq_getElem_cons (by rw [size_len]; exact h)]
  rfl
theorem slice_one (s : ByteArray) (a : Nat) (h : a < s.size) : ∀ wx, (Instr.slice 9 (.string s) (some (.int .i64 (a : Int))) (some (.int .i64 ((a : Int) + 1))) none).run Tryz.prog wx = .ok (.string ⟨#[s[a]]⟩) wx := by
  intro wx
  have h1 := run_slice_string (P := Tryz.prog) wx 9 s .i64 .i64 (a : Int) ((a : Int) + 1) Tryz.underlying9 (by omega) (by omega) (by omega)
  have e : s.extract a (a + 1) = ⟨#[s[a]]⟩ := by
    apply ByteArray.ext
    apply Array.toList_inj.1
    simp only [ByteArray.data_extract, Array.toList_extract, List.extract_eq_take_drop]
    rw [Nat.add_sub_cancel_left, drop_cons' h]
    rfl
  rw [h1, show ((a : Int) + 1).toNat = a + 1 by omega, show (a : Int).toNat = a by omega, e]
theorem add_lists {x y : List UInt8} (h : ¬ 9223372036854775807 < x.length + y.length) (w : World) : (binOp .add 9 (.string ⟨x.toArray⟩) (.string ⟨y.toArray⟩)).run Tryz.prog w = .ok (.string ⟨(x ++ y).toArray⟩) w := by
  go_simp
  rw [cat_lists]
theorem app_bytes (acc : List UInt8) (b : UInt8) : (⟨acc.toArray⟩ : ByteArray) ++ ⟨#[b]⟩ = ⟨(acc ++ [b]).toArray⟩ := cat_lists acc [b]
/-- Where the walk through a text's bytes stands: what is written, what is still to read. -/
def qAt (l : List UInt8) (pos : Nat) (acc : List UInt8) : Prop := pos ≤ l.length ∧ acc.length ≤ 2 * pos + 1 ∧ 34 :: Nq.quote l = acc ++ Nq.quote (l.drop pos)
theorem qAt_zero (l : List UInt8) : qAt l 0 [34] := ⟨by omega, by simp, by simp⟩
theorem qAt_esc {s : ByteArray} {pos : Nat} {acc : List UInt8} (h : qAt s.data.toList pos acc) (hp : pos < s.size) (hq : Nq.isQ s[pos] = true) : qAt s.data.toList (pos + 1) (acc ++ [92] ++ [s[pos]]) := by
  obtain ⟨a1, a2, a3⟩ := h
  refine ⟨by rw [size_len]; omega, by simp; omega, ?_⟩
  rw [a3, drop_cons' hp, Nq.quote_cons, if_pos hq]
  simp
theorem qAt_plain {s : ByteArray} {pos : Nat} {acc : List UInt8} (h : qAt s.data.toList pos acc) (hp : pos < s.size) (hq : Nq.isQ s[pos] = false) : qAt s.data.toList (pos + 1) (acc ++ [s[pos]]) := by
  obtain ⟨a1, a2, a3⟩ := h
  refine ⟨by rw [size_len]; omega, by simp; omega, ?_⟩
  rw [a3, drop_cons' hp, Nq.quote_cons, if_neg (by rw [hq]; simp)]
  simp

set_option maxRecDepth 20000 in
set_option maxHeartbeats 2000000 in
theorem refText_str (s : ByteArray) (w : World) (hs : s.size ≤ 2000000) :
    Calls Tryz.prog 45 #[.agg #[.int .i64 2, .int .i64 0, .string s]] w fun e w' => e = .returned (.string ⟨(Vl.quoted s.data.toList).toArray⟩) ∧ Below w.heap.size w w' := by
  have HB := below_new w (.cells #[.int .i64 2, .int .i64 0, .string s] 61)
  go_enter Tryz.func45, Tryz.ntmps45
  go_wp2
  go_loop [3, 4] (fun o i => ∃ (pos : Nat) (acc : List UInt8), o = .string ⟨acc.toArray⟩ ∧ i = .int .i64 pos ∧ qAt s.data.toList pos acc) (fun _ i => s.size - (intOf i).toNat)
  case atStart => exact ⟨0, [34], rfl, rfl, qAt_zero _⟩
  case round =>
    obtain ⟨pos, acc, rfl, rfl, hR⟩ := hrel
    have hpl := hR.1
    rw [size_len] at hpl
    have hal := hR.2.1
    by_cases hp : pos < s.size
    · have hsl := slice_one s pos hp
      have HA : Hid ((⟨acc.toArray⟩ : ByteArray) ++ ⟨#[s[pos]]⟩ = ⟨(acc ++ [s[pos]]).toArray⟩) := app_bytes acc _
      have HB : Hid ((⟨acc.toArray⟩ : ByteArray) ++ ⟨#[92]⟩ ++ ⟨#[s[pos]]⟩ = ⟨(acc ++ [92] ++ [s[pos]]).toArray⟩) := by
        have h : (⟨acc.toArray⟩ : ByteArray) ++ ⟨#[92]⟩ ++ ⟨#[s[pos]]⟩ = ⟨(acc ++ [92] ++ [s[pos]]).toArray⟩ := by rw [app_bytes, app_bytes]
        exact h
      by_cases h34 : s[pos].toNat = 34
      · have HR : Hid (qAt s.data.toList (pos + 1) (acc ++ [92] ++ [s[pos]])) := by
          have h := qAt_esc hR hp (isQ_iff.2 (.inl (UInt8.toNat_inj.1 h34)))
          exact h
        clear hR
        go_wp2
        go_round
        case rel => exact ⟨pos + 1, _, by rw [← HB.out], by go_num, HR.out⟩
        case measure => simp [intOf]; omega
      · by_cases h92 : s[pos].toNat = 92
        · have HR : Hid (qAt s.data.toList (pos + 1) (acc ++ [92] ++ [s[pos]])) := by
            have h := qAt_esc hR hp (isQ_iff.2 (.inr (UInt8.toNat_inj.1 h92)))
            exact h
          clear hR
          go_wp2
          go_round
          case rel => exact ⟨pos + 1, _, by rw [← HB.out], by go_num, HR.out⟩
          case measure => simp [intOf]; omega
        · have HR : Hid (qAt s.data.toList (pos + 1) (acc ++ [s[pos]])) := by
            have h := qAt_plain hR hp (by
              cases hq : Nq.isQ s[pos] with
              | false => rfl
              | true => rcases isQ_iff.1 hq with e | e <;> rw [e] at h34 h92 <;> simp at h34 h92)
            exact h
          clear hR
          have q1 : ((s[pos].toNat : Int) == 34) = false := beq_eq_false_iff_ne.2 (by omega)
          have q2 : ((s[pos].toNat : Int) == 92) = false := beq_eq_false_iff_ne.2 (by omega)
          go_wp2
          go_round
          case rel => exact ⟨pos + 1, _, by rw [← HA.out], by go_num, HR.out⟩
          case measure => simp [intOf]; omega
    · have HL : Hid (34 :: Nq.quote s.data.toList = acc) := by
        have h := hR.2.2
        rw [U.drop_nil hp, Nq.quote_nil, List.append_nil] at h
        exact h
      clear hR
      go_wp2
      go_ret
      exact ⟨ret_str (by rw [show (⟨#[34]⟩ : ByteArray) = ⟨[34].toArray⟩ from rfl, cat_lists, ← HL.out]; rfl), HB⟩

set_option maxRecDepth 20000 in
theorem refText_right (k n : Int) (l : List UInt8) (w : World) (h : Vl.Right k n l) : Calls Tryz.prog 45 #[valV k n l] w fun e w' => e = .returned (.string ⟨(Vl.text k n l).toArray⟩) ∧ Below w.heap.size w w' := by
  have hlen := h.len
  have ham := h.amount
  rcases h with ⟨rfl, rfl, h1, h2⟩ | ⟨rfl, rfl, h1, h2⟩ | ⟨rfl, rfl, h1, h2⟩
  · have C := fun w => digits_any n w (by omega) (by omega)
    rw [show Vl.text 1 n [] = Lib.itoa n from rfl]
    generalize Lib.itoa n = t at *
    go_enter Tryz.func45, Tryz.ntmps45
    go_wp2_with (go_at_call 47; refine (C _).mono ?_; rintro e w1 ⟨rfl, hb1⟩)
    go_ret
    exact ⟨rfl, bchain (below_new _ _) hb1⟩
  · exact refText_str ⟨l.toArray⟩ w (by rw [mk_size]; omega)
  · by_cases e : n = 1
    · subst e
      rw [show Vl.text 3 1 [] = Vl.tru from rfl]
      go_enter Tryz.func45, Tryz.ntmps45
      go_wp2
      go_ret
      exact ⟨rfl, below_new _ _⟩
    · obtain rfl : n = 0 := by omega
      rw [show Vl.text 3 0 [] = Vl.fls from rfl]
      go_enter Tryz.func45, Tryz.ntmps45
      go_wp2
      go_ret
      exact ⟨rfl, below_new _ _⟩

end Go.Proofs.YthlhopdlkkeohaaGreatDoor.N
/- The walks of the two 'Split'. -/
namespace Go.Proofs.YthlhopdlkkeohaaGreatDoor.U
open Go.RowKit

/-! ### A builder beside texts of the call's own -/
/-! ### Split, byte by byte -/
/-- Where a walk through the bytes stands. -/
def spAt (l : List UInt8) (pos : Nat) (outs : List (List UInt8)) (word : List UInt8) : Prop := pos ≤ l.length ∧ word.length ≤ pos ∧ outs.length ≤ pos ∧ Nm.split l = Nm.sp (l.drop pos) false outs word
theorem spAt_zero (l : List UInt8) : spAt l 0 [] [] := ⟨by omega, by simp, by simp, by simp [Nm.split]⟩
theorem sp_slash (r : List UInt8) (outs : List (List UInt8)) (word : List UInt8) : Nm.sp (47 :: r) false outs word = Nm.sp r false (outs ++ [word]) [] := by
  rw [Nm.sp, if_neg (by decide), if_pos rfl]
theorem sp_esc (r : List UInt8) (outs : List (List UInt8)) (word : List UInt8) : Nm.sp (92 :: r) false outs word = Nm.sp r true outs word := by
  rw [Nm.sp, if_pos rfl]
theorem sp_escaped {b : UInt8} (r : List UInt8) (outs : List (List UInt8)) (word : List UInt8) (h : Nm.isQ b = true) : Nm.sp (b :: r) true outs word = Nm.sp r false outs (word ++ [b]) := by
  rw [Nm.sp, if_pos h]
theorem sp_wrong {b : UInt8} (r : List UInt8) (outs : List (List UInt8)) (word : List UInt8) (h : Nm.isQ b = false) : Nm.sp (b :: r) true outs word = none := by
  rw [Nm.sp, if_neg (by rw [h]; simp)]
theorem byte_of {b c : UInt8} (h : b.toNat = c.toNat) : b = c := UInt8.toNat_inj.1 h

/-- What the two tell. -/
def splitL (l : List UInt8) : List (List UInt8) := (Nm.split l).getD []
def splitOk (l : List UInt8) : Bool := (Nm.split l).isSome
theorem splitL_none {l : List UInt8} (h : Nm.split l = none) : splitL l = [] ∧ splitOk l = false := by simp [splitL, splitOk, h]
theorem splitL_some {l : List UInt8} {x : List (List UInt8)} (h : Nm.split l = some x) : splitL l = x ∧ splitOk l = true := by simp [splitL, splitOk, h]

/-! ### Split, character by character -/
/-- Where a walk through the characters stands. -/
def splAt (l : List UInt8) (pos fr : Nat) (esc : Bool) (outs : List (List UInt8)) (acc : List UInt8) : Prop := fr ≤ pos ∧ pos ≤ l.length ∧ acc.length + (pos - fr) ≤ pos ∧ outs.length ≤ pos ∧ Nm.split l = Nm.sp (l.drop pos) esc outs (acc ++ (l.take pos).drop fr)
theorem splAt_zero (l : List UInt8) : splAt l 0 0 false [] [] := ⟨by omega, by omega, by simp, by simp, by simp [Nm.split]⟩
end Go.Proofs.YthlhopdlkkeohaaGreatDoor.U
/- The walk of 'each' with name.Quote and with pack.Text: what a function answers to each part, in a row of its own. -/
namespace Go.Proofs.YthlhopdlkkeohaaGreatDoor.U
open Go.RowKit

/-- A row of one's own stands through a call. -/
theorem own_on {w w' : World} {B : Nat} {e : TypeId} {v : Value} {n : Nat} {xs : List Value} (h : w.ownsRow B e 1 v n xs) (hb : Below w.heap.size w w') : w'.ownsRow B e 1 v n xs := by
  refine ⟨h.1, ?_⟩
  rcases h.2 with h0 | ⟨g, cap, cur, h1, h2, h3, h4⟩
  · exact Or.inl h0
  · exact Or.inr ⟨g, cap, cur, h1, h2, (hb.block g (heap_lt h3)).trans h3, h4⟩
theorem quote_list (l : List UInt8) (w : World) (hl : l.length ≤ 2000000) : Calls Tryz.prog 88 #[.string ⟨l.toArray⟩] w fun e w' => e = .returned (.string ⟨(Nm.quote l).toArray⟩) ∧ Below w.heap.size w w' :=
  quote_any ⟨l.toArray⟩ w (by simp [ByteArray.size]; exact hl)
theorem map_take_succ (f : List UInt8 → List UInt8) {xs : List (List UInt8)} {k : Nat} (h : k < xs.length) : (xs.map f).take (k + 1) = (xs.map f).take k ++ [f xs[k]] := by
  rw [List.take_succ_eq_append_getElem (by rw [List.length_map]; exact h), List.getElem_map]

set_option maxRecDepth 20000 in
set_option maxHeartbeats 2000000 in
theorem each_quote (v : Value) (xs : List (List UInt8)) (w : World) (hx : xs.length ≤ 1000) (hz : ∀ x ∈ xs, x.length ≤ 1000000) (hv : strsAt w v xs) :
    Calls Tryz.prog 87 #[v, .func (.func 88) #[] #[]] w fun e w' => ∃ u, e = .returned u ∧ w'.ownsRow w.heap.size 9 1 u xs.length (cellsS (xs.map Nm.quote)) ∧ Below w.heap.size w w' := by
  obtain ⟨i0, hi, hz0, hz1, hz2⟩ := info_parts info9
  obtain ⟨ao, ca, rfl, _, hc⟩ := hv
  go_enter Tryz.func87, Tryz.ntmps87
  go_wp2_with (refine wpList_make_own _ rfl _ _ 24 rfl w.heap.size 9 i0 (.string ⟨#[]⟩) 1 Tryz.underlying24 hi hz0 hz1 _ _ _ xs.length rfl rfl rfl (by rw [hz2]; omega) (by unfold maxLen; omega) (Nat.le_refl _) ?_)
  intro w0 hown0 hg0
  have hb0 : Below w.heap.size w w0 := (Below.refl _ w).grown hg0 (Nat.le_refl _) (fun k hk => by cases hk)
  generalize Value.slice (some ⟨w.heap.size, 0, none⟩) 0 xs.length = v0 at *
  go_wp2
  go_loopw [5, 13] (fun u i wr => ∃ k : Nat, k ≤ xs.length ∧ i = .int .i64 k ∧ wr.ownsRow w.heap.size 9 1 u k (cellsS ((xs.map Nm.quote).take k)) ∧ Below w.heap.size w wr) (fun _ i _ => xs.length - (intOf i).toNat)
  case atStart => exact ⟨0, by omega, rfl, hown0, hb0⟩
  case round =>
    obtain ⟨k, hk, rfl, hown, hbw⟩ := hrel
    by_cases hlt : k < xs.length
    · obtain ⟨ad, rfl, hA⟩ := hc k hlt
      have hA2 : wr.cell? (ad.add k) = some (.string ⟨(xs[k]).toArray⟩) := (hbw.cell (World.block_lt_of_cell? _ _ hA)).trans hA
      have HT : Hid ((xs.map Nm.quote).take (k + 1) = (xs.map Nm.quote).take k ++ [Nm.quote xs[k]]) := map_take_succ _ hlt
      have HC := fun W => quote_list xs[k] W (Nat.le_trans (hz _ (List.getElem_mem hlt)) (by omega))
      clear hc hA hz
      generalize Nm.quote xs[k] = y at *
      generalize xs[k] = x at *
      go_wp2_with (go_at_call 88; refine (HC _).mono ?_)
      rintro e w1 ⟨rfl, hb1⟩
      have hown1 := own_on hown hb1
      have hs1 : w.heap.size ≤ w1.heap.size := Nat.le_trans hbw.size hb1.size
      have hbw1 : Below w.heap.size w w1 := hbw.trans (hb1.mono hbw.size)
      go_wp2_with (at_builtin; refine wpList_append_own _ rfl _ _ 24 rfl w.heap.size 9 i0 (.string ⟨#[]⟩) 1 16 Tryz.underlying24 hi hz0 hz1 hz2 rfl (by decide) _ _ _ rfl (hown1.alloc _) ⟨_, 0, none⟩ 1 1 [.string ⟨y.toArray⟩] rfl rfl (one_new5 _ _ _) (one_cellS _) ?c3 ?c4 ?c5 ?_)
      case c3 => unfold maxLen; omega
      case c4 => omega
      case c5 => simp; omega
      intro v' w2 hown' hgrow _
      have R1 := own_below hown1 hs1 hbw1 hgrow
      rw [cellsS_snoc, ← HT.out] at hown'
      clear hgrow hown hown1
      go_wp2
      go_roundw
      case rel => exact ⟨k + 1, by omega, by go_num, hown', R1⟩
      case measure => simp [intOf]; omega
    · obtain rfl : k = xs.length := by omega
      rw [List.take_of_length_le (by rw [List.length_map]; exact Nat.le_refl _)] at hown
      clear hc hz
      go_wp2
      go_ret
      exact ⟨_, rfl, hown, hbw⟩

end Go.Proofs.YthlhopdlkkeohaaGreatDoor.U
/- strings.Join, which lies proved over any program: laid at this program; at a row of one's own. -/
namespace Go.Proofs.YthlhopdlkkeohaaGreatDoor.J
open Go.Shelf Go.RowKit

/-- Which number the library's functions, types and variables have here. -/
def ren : Ren := ⟨fun | 156 => 86 | 165 => 126 | 166 => 50 | 169 => 52 | 240 => 92 | 241 => 164 | 276 => 132 | 277 => 184 | n => n, fun | 0 => 0 | 3 => 3 | 4 => 4 | 5 => 5 | 9 => 9 | 20 => 20 | 31 => 24 | 37 => 100 | 70 => 99 | 72 => 102 | 75 => 104 | 76 => 105 | 80 => 108 | 127 => 140 | 164 => 176 | n => n, fun | n => n⟩
theorem lay156 : Lays.n156 Tryz.prog ren := {
  mixed := by kernel_rfl
  f156 := Tryz.func86.trans (congrArg some (by kernel_rfl))
  f165 := Tryz.func126.trans (congrArg some (by kernel_rfl))
  f166 := Tryz.func50.trans (congrArg some (by kernel_rfl))
  f169 := Tryz.func52.trans (congrArg some (by kernel_rfl))
  f240 := Tryz.func92.trans (congrArg some (by kernel_rfl))
  f241 := Tryz.func164.trans (congrArg some (by kernel_rfl))
  f276 := Tryz.func132.trans (congrArg some (by kernel_rfl))
  f277 := Tryz.func184.trans (congrArg some (by kernel_rfl))
  t0 := Tryz.underlying0, a0 := Tryz.isAgg0, z0 := Tryz.sizeOf0, v0 := Tryz.zeroValue0
  t3 := Tryz.underlying3, a3 := Tryz.isAgg3, z3 := Tryz.sizeOf3, v3 := Tryz.zeroValue3
  t4 := Tryz.underlying4, a4 := Tryz.isAgg4, z4 := Tryz.sizeOf4, v4 := Tryz.zeroValue4
  t9 := Tryz.underlying9, a9 := Tryz.isAgg9, z9 := Tryz.sizeOf9, v9 := Tryz.zeroValue9
  t20 := Tryz.underlying20, a20 := Tryz.isAgg20, z20 := Tryz.sizeOf20, v20 := Tryz.zeroValue20
  t31 := Tryz.underlying24, a31 := Tryz.isAgg24, z31 := Tryz.sizeOf24, v31 := Tryz.zeroValue24
  t37 := Tryz.underlying100, a37 := Tryz.isAgg100, z37 := Tryz.sizeOf100, v37 := Tryz.zeroValue100
  t70 := Tryz.underlying99, a70 := Tryz.isAgg99, z70 := Tryz.sizeOf99, v70 := Tryz.zeroValue99
  t72 := Tryz.underlying102, a72 := Tryz.isAgg102, z72 := Tryz.sizeOf102, v72 := Tryz.zeroValue102
  t75 := Tryz.underlying104, a75 := Tryz.isAgg104, z75 := Tryz.sizeOf104, v75 := Tryz.zeroValue104
  t76 := Tryz.underlying105, a76 := Tryz.isAgg105, z76 := Tryz.sizeOf105, v76 := Tryz.zeroValue105
  t127 := Tryz.underlying140, a127 := Tryz.isAgg140, z127 := Tryz.sizeOf140, v127 := Tryz.zeroValue140
  t164 := Tryz.underlying176, a164 := Tryz.isAgg176, z164 := Tryz.sizeOf176, v164 := Tryz.zeroValue176 }
theorem layX : Builder.Extra Tryz.prog ren := {
  sizeBuilder := by kernel_rfl
  liesBuilder := by kernel_rfl
  t5 := Tryz.underlying5, a5 := Tryz.isAgg5, z5 := Tryz.sizeOf5, v5 := Tryz.zeroValue5
  infoByte := by kernel_rfl
  cellsByte := by kernel_rfl
  sizeByte := by kernel_rfl
  neB5 := by decide }
end Go.Proofs.YthlhopdlkkeohaaGreatDoor.J
namespace Go.Proofs.YthlhopdlkkeohaaGreatDoor.U
open Go.Shelf Go.RowKit

/-- Texts that lie in a row of one's own, joined. -/
theorem join_own {B : Nat} {u : Value} {ys : List (List UInt8)} {w : World} (sep : List UInt8) (h : w.ownsRow B 9 1 u ys.length (cellsS ys)) (hn : ys.length ≤ 140737488355328) (hlen : (Lib.join ys sep).length ≤ 140737488355328) :
    Calls Tryz.prog 86 #[u, .string ⟨sep.toArray⟩] w fun e w' => e = .returned (.string ⟨(Lib.join ys sep).toArray⟩) ∧ Below w.heap.size w w' := by
  have hmap : (ys.map fun x => (⟨x.toArray⟩ : ByteArray)).map (·.data.toList) = ys := by
    rw [List.map_map]
    conv => rhs; rw [← List.map_id ys]
    apply List.map_congr_left
    intro x _
    simp
  rcases h.2 with ⟨rfl, h0⟩ | ⟨g, cap, cur, rfl, hB, hg, hle, _⟩
  · obtain rfl : ys = [] := List.eq_nil_of_length_eq_zero h0
    refine (Any.strings_Join_none J.lay156 J.layX none 0 ⟨sep.toArray⟩ w).mono fun e w' ⟨he, hw⟩ => ⟨?_, hw ▸ Below.refl _ _⟩
    rw [he]; rfl
  · have hc := Any.strings_Join J.lay156 J.layX g 0 cap (ys.map fun x => (⟨x.toArray⟩ : ByteArray)) ⟨sep.toArray⟩ w (fun j x hx => by
      have h1 := h.cells rfl j (.string x) (by
        rw [List.getElem?_map] at hx
        obtain ⟨y, hy, rfl⟩ := Option.map_eq_some_iff.1 hx
        simp [cellsS, hy])
      rw [Addr.add_lit] at h1
      exact h1) (heap_lt hg) (by rw [List.length_map]; exact hn) (by rw [List.length_map]; exact hle) (by rw [hmap]; simpa using hlen)
    rw [hmap, List.length_map] at hc
    exact hc

end Go.Proofs.YthlhopdlkkeohaaGreatDoor.U
