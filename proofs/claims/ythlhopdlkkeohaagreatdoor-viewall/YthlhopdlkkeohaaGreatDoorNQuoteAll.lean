/- The walk of quoted (of a text that is UTF-8) · The walk of value.Text, of a right value · The walks of the document's Text (of a right value), and of both Codes · The walks of the two 'Split' · The walk of 'each' with name.Quote and with pack.Text: what a function answers to each part, in a row of its own. -/
import Derived.Test.YthlhopdlkkeohaaGreatDoorRunesAll
import Derived.Test.YthlhopdlkkeohaaGreatDoorERefAtAll
import Derived.Test.YthlhopdlkkeohaaGreatDoorKindsAll
import Derived.Test.YthlhopdlkkeohaaGreatDoorQuotesAll
import Derived.Test.YthlhopdlkkeohaaGreatDoorPlainAll
import Derived.OwnWalk
/- The walk of quoted (of a text that is UTF-8). -/
namespace Go.Proofs.YthlhopdlkkeohaaGreatDoor.N
open Go.RowKit

/-- The byte in front of what is quoted; the character is that byte. -/
theorem isQN_byte {l : List UInt8} (hne : l ≠ []) (h : Nq.isQN (Lib.decodeL l).1 = true) : ∃ b t, l = b :: t ∧ Nq.isQ b = true ∧ (Lib.decodeL l).2 = 1 ∧ b.toNat = (Lib.decodeL l).1 := by
  cases l with
  | nil => exact absurd rfl hne
  | cons b t =>
    rcases Nm.chunk (b :: t) hne with ⟨h1, h2⟩ | ⟨_, h2, _⟩
    · rw [h2] at h
      simp only [List.getD_cons_zero] at h h1 h2
      refine ⟨b, t, rfl, ?_, by rw [h2], by rw [h2]⟩
      simp only [Nq.isQN, Bool.or_eq_true, beq_iff_eq] at h
      simp only [Nq.isQ, Bool.or_eq_true, beq_iff_eq]
      rcases h with h | h
      · left; exact UInt8.toNat_inj.1 h
      · right; exact UInt8.toNat_inj.1 h
    · simp only [Nq.isQN, Bool.or_eq_true, beq_iff_eq] at h
      omega
/-- No byte of another character is a quote or an escape. -/
theorem isQN_none {l : List UInt8} (hne : l ≠ []) (h : Nq.isQN (Lib.decodeL l).1 = false) : ∀ x ∈ l.take (Lib.decodeL l).2, Nq.isQ x = false := by
  rcases Nm.chunk l hne with ⟨h1, h2⟩ | ⟨_, _, h3⟩
  · intro x hx
    rw [h2] at h hx
    cases l with
    | nil => exact absurd rfl hne
    | cons b t =>
      simp only [List.getD_cons_zero] at h
      simp at hx
      subst hx
      simp only [Nq.isQN, Bool.or_eq_false_iff, beq_eq_false_iff_ne] at h
      simp only [Nq.isQ, Bool.or_eq_false_iff, beq_eq_false_iff_ne]
      refine ⟨fun e => h.1 (by rw [e]; rfl), fun e => h.2 (by rw [e]; rfl)⟩
  · intro x hx
    exact Nq.isQ_high (h3 x hx)
/-- Where a walk through the characters stands: what is written, what is still to read. -/
def quoAt (l : List UInt8) (pos : Nat) (acc : List UInt8) : Prop := pos ≤ l.length ∧ acc.length ≤ 2 * pos + 1 ∧ Vl.utf (l.drop pos) = true ∧ 34 :: Nq.quote l = acc ++ Nq.quote (l.drop pos)
theorem quoAt_zero {l : List UInt8} (h : Vl.utf l = true) : quoAt l 0 [34] := ⟨by omega, by simp, by simpa using h, by simp⟩
theorem quoAt_step {l : List UInt8} {pos : Nat} {acc : List UInt8} (h : quoAt l pos acc) (hne : l.drop pos ≠ []) (hq : Nq.isQN (Lib.decodeL (l.drop pos)).1 = false) : quoAt l (pos + (Lib.decodeL (l.drop pos)).2) (acc ++ Lib.encodeRune ((Lib.decodeL (l.drop pos)).1 : Int)) := by
  have h1 := Lib.decodeL_le _ hne
  have hw := Lib.decodeL_width (l.drop pos)
  rw [List.length_drop] at h1
  obtain ⟨a1, a2, a3, a4⟩ := h
  obtain ⟨hb, hr⟩ := Vl.runes_some hne a3
  rw [Lib.encode_decode _ hne (Nm.not_bad hb)]
  refine ⟨by omega, ?_, by rw [Nm.drop_rest] at hr; exact hr, ?_⟩
  · rw [List.length_append, List.length_take, List.length_drop]; omega
  · have e : Nq.quote (l.drop pos) = (l.drop pos).take (Lib.decodeL (l.drop pos)).2 ++ Nq.quote (l.drop (pos + (Lib.decodeL (l.drop pos)).2)) := by
      conv => lhs; rw [← List.take_append_drop (Lib.decodeL (l.drop pos)).2 (l.drop pos)]
      rw [Nq.quote_append, Nq.quote_high (isQN_none hne hq), List.drop_drop]
    rw [a4, e]
    simp
theorem quoAt_esc {l : List UInt8} {pos : Nat} {acc : List UInt8} (h : quoAt l pos acc) (hne : l.drop pos ≠ []) (hq : Nq.isQN (Lib.decodeL (l.drop pos)).1 = true) : quoAt l (pos + (Lib.decodeL (l.drop pos)).2) (acc ++ [92] ++ Lib.encodeRune ((Lib.decodeL (l.drop pos)).1 : Int)) := by
  have h1 := Lib.decodeL_le _ hne
  rw [List.length_drop] at h1
  obtain ⟨b, t, e1, e2, e3, e5⟩ := isQN_byte hne hq
  obtain ⟨a1, a2, a3, a4⟩ := h
  obtain ⟨hb, hr⟩ := Vl.runes_some hne a3
  rw [Lib.encode_decode _ hne (Nm.not_bad hb)]
  rw [Nm.drop_rest] at hr
  rw [e3] at h1 hr ⊢
  have e4 : l.drop (pos + 1) = t := by rw [← List.drop_drop, e1]; rfl
  refine ⟨by omega, ?_, hr, ?_⟩
  · simp only [List.length_append, List.length_take, List.length_singleton]
    omega
  · rw [e4, a4, e1, Nq.quote_cons, if_pos e2]
    simp
theorem quoAt_end {l : List UInt8} {pos : Nat} {acc : List UInt8} (h : quoAt l pos acc) (hn : l.drop pos = []) : Vl.quoted l = acc ++ [34] := by
  obtain ⟨a1, a2, a3, a4⟩ := h
  rw [hn, Nq.quote_nil, List.append_nil] at a4
  rw [← a4]; rfl

set_option maxRecDepth 100000 in
set_option maxHeartbeats 4000000 in
theorem quoted_any (s : ByteArray) (w : World) (hs : s.size ≤ 2000000) (hu : Vl.utf s.data.toList = true) :
    Calls Tryz.prog 129 #[.string s] w fun e w' => e = .returned (.string ⟨(Vl.quoted s.data.toList).toArray⟩) ∧ Below w.heap.size w w' := by
  have H0 := Lib.IsBuilderF.of (Lib.fresh_isBuilder 102 5 w)
  have HU : Hid (quoAt s.data.toList 0 [34]) := by have h := quoAt_zero hu; exact h
  clear hu
  go_enter Tryz.func129, Tryz.ntmps129
  go_wp2_with (first | (go_at_call 51; refine (U.writeByte_any w.heap.size w.heap.size _ 34 _ H0 (by simp) (by simp)).mono ?_) | go_in)
  rintro e W0 ⟨rfl, h0, b0, k0⟩
  have hsz0 := b0.size
  have hB0 : Below w.heap.size w W0 := ((Below.refl _ w).alloc (Nat.le_refl _) _).trans b0
  clear b0 k0 H0
  have hg : w.heap.size < W0.heap.size := by simp at hsz0; omega
  go_wp2
  go_loopw [] (fun wr => ∃ (pos : Nat) (acc : List UInt8), Lib.IsBuilderF 102 5 w.heap.size w.heap.size (Lib.byteCells acc) wr ∧ wr.heap[W0.heap.size]? = some (.stringIter s pos) ∧ Below w.heap.size w wr ∧ quoAt s.data.toList pos acc) (fun wr => s.size - wr.iterPos W0.heap.size)
  case atStart =>
    refine ⟨0, [34], ?_, ?_, hB0.alloc (by omega) _, HU.out⟩
    · have h1 : Lib.IsBuilderF 102 5 w.heap.size w.heap.size (Lib.byteCells [34]) W0 := h0
      exact h1.alloc _
    · have := World.iter_heap W0 s 0
      simpa using this
  case round =>
    obtain ⟨pos, acc, hI, hit, hbw, hR⟩ := hrel
    have hsz : W0.heap.size < wr.heap.size := U.heap_lt hit
    have hpl := hR.1
    rw [size_len] at hpl
    have hal := hR.2.1
    by_cases hp : pos < s.size
    · have hnx : ∀ ty, (Instr.next (.pointer (some ⟨W0.heap.size, 0, none⟩)) true ty).run Tryz.prog wr = _ := fun ty => Lib.run_next_any_at wr W0.heap.size s pos ty hit hp
      have HE : Hid (s.data.toList.drop pos ≠ []) := U.drop_ne hp
      have HD : Hid (Lib.decodeL (s.data.toList.drop pos) = Utf8.decode s pos) := Lib.decodeL_drop s pos
      have hd1 := decode_le s pos
      have hwd : 1 ≤ (Utf8.decode s pos).2 := by rw [← HD.out]; exact Lib.decodeL_width _
      have hI2 := hI.iterAt hit (pos + (Utf8.decode s pos).2)
      have hit2 := Lib.iterAt_heap wr W0.heap.size s pos (pos + (Utf8.decode s pos).2) hit
      have hbw2 := Lib.below_iterAt hbw (k := W0.heap.size) (by omega) s (pos + (Utf8.decode s pos).2)
      have hsz2 : w.heap.size ≤ (wr.iterAt W0.heap.size s (pos + (Utf8.decode s pos).2)).heap.size := by rw [Lib.iterAt_size]; omega
      cases hq : Nq.isQN (Utf8.decode s pos).1 with
      | false =>
        have HR : Hid (quoAt s.data.toList (pos + (Utf8.decode s pos).2) (acc ++ Lib.encodeRune ((Utf8.decode s pos).1 : Int))) := by
          have h := quoAt_step hR HE.out (by rw [HD.out]; exact hq)
          rw [HD.out] at h
          exact h
        clear hR
        have q1 : (((Utf8.decode s pos).1 : Int) == 34) = false := by
          simp only [Nq.isQN, Bool.or_eq_false_iff, beq_eq_false_iff_ne] at hq
          exact beq_eq_false_iff_ne.2 (by omega)
        have q2 : (((Utf8.decode s pos).1 : Int) == 92) = false := by
          simp only [Nq.isQN, Bool.or_eq_false_iff, beq_eq_false_iff_ne] at hq
          exact beq_eq_false_iff_ne.2 (by omega)
        clear hq
        go_wp2_with (first
          | (go_at_call 165; refine (U.writeRune_any w.heap.size w.heap.size _ _ (by omega) (by omega) _ hI2 (by rw [Lib.byteCells_length]; omega) hsz2).mono ?_)
          | go_in)
        rintro e W1 ⟨rfl, h1, b1, k1⟩
        go_wp2
        go_roundw
        case rel =>
          refine ⟨pos + (Utf8.decode s pos).2, acc ++ Lib.encodeRune (Utf8.decode s pos).1, ?_, k1.iter hit2 (by omega), hbw2.trans b1, HR.out⟩
          rw [Lib.byteCells_append, Lib.byteCells_encodeRune]
          exact h1
        case measure =>
          simp only [World.iterPos, k1.iter hit2 (by omega), hit]
          omega
      | true =>
        have HR : Hid (quoAt s.data.toList (pos + (Utf8.decode s pos).2) (acc ++ [92] ++ Lib.encodeRune ((Utf8.decode s pos).1 : Int))) := by
          have h := quoAt_esc hR HE.out (by rw [HD.out]; exact hq)
          rw [HD.out] at h
          exact h
        clear hR
        have q : (Utf8.decode s pos).1 = 34 ∨ (Utf8.decode s pos).1 = 92 := by
          simp only [Nq.isQN, Bool.or_eq_true, beq_iff_eq] at hq
          exact hq
        clear hq
        generalize (Utf8.decode s pos).2 = d at *
        rcases q with q | q
        all_goals
          rw [q] at HR hnx hd1
          clear q HD
          go_wp2_with (first
            | (go_at_call 51; refine (U.writeByte_any w.heap.size w.heap.size _ 92 _ hI2 (by rw [Lib.byteCells_length]; omega) hsz2).mono ?_)
            | go_in)
          rintro e W1 ⟨rfl, h1, b1, k1⟩
          have hit3 := k1.iter hit2 (by omega)
          have hsz3 : w.heap.size ≤ W1.heap.size := Nat.le_trans hsz2 b1.size
          go_wp2_with (first
            | (go_at_call 165; refine (U.writeRune_any w.heap.size w.heap.size _ _ (by omega) (by omega) _ h1 (by simp only [List.length_append, Lib.byteCells_length, List.length_singleton]; omega) hsz3).mono ?_)
            | go_in)
          rintro e W2 ⟨rfl, h2, b2, k2⟩
          have hit4 := k2.iter hit3 (by omega)
          go_wp2
          go_roundw
          case rel =>
            refine ⟨pos + d, _, ?_, hit4, (hbw2.trans b1).trans b2, HR.out⟩
            rw [Lib.byteCells_append, Lib.byteCells_encodeRune, Lib.byteCells_append]
            exact h2
          case measure =>
            simp only [World.iterPos, hit4, hit]
            omega
    · have hnx : ∀ ty, (Instr.next (.pointer (some ⟨W0.heap.size, 0, none⟩)) true ty).run Tryz.prog wr = _ := fun ty => Lib.run_next_end_at wr W0.heap.size s pos ty hit hp
      have HL : Hid (Vl.quoted s.data.toList = acc ++ [34]) := by
        have h := quoAt_end hR (U.drop_nil hp)
        exact h
      clear hR
      go_wp2_with (first
        | (go_at_call 51; refine (U.writeByte_any w.heap.size w.heap.size _ 34 _ hI (by rw [Lib.byteCells_length]; omega) (by omega)).mono ?_)
        | go_in)
      rintro e W1 ⟨rfl, h1, b1, k1⟩
      have h1' : Lib.IsBuilderF 102 5 w.heap.size w.heap.size (Lib.byteCells (acc ++ [34])) W1 := by rw [Lib.byteCells_append]; exact h1
      have hsz3 : w.heap.size ≤ W1.heap.size := Nat.le_trans (by omega) b1.size
      go_wp2_with (first | (go_at_call 52; refine (bString w.heap.size w.heap.size _ _ h1' hsz3).mono ?_) | go_in)
      rintro e W2 ⟨rfl, _, b2, _⟩
      go_wp2
      go_ret
      exact ⟨ret_str (by rw [HL.out]), (hbw.trans b1).trans b2⟩

end Go.Proofs.YthlhopdlkkeohaaGreatDoor.N
/- The walk of value.Text, of a right value. -/
namespace Go.Proofs.YthlhopdlkkeohaaGreatDoor.N
open Go.RowKit

set_option maxRecDepth 20000 in
theorem inside_any (k n : Int) (l : List UInt8) (w : World) : Calls Tryz.prog 128 #[valV k n l] w fun e w' => e = .returned (inV (Vl.inside k n l)) ∧ Below w.heap.size w w' := by
  by_cases h1 : k = 1
  · subst h1
    go_enter Tryz.func128, Tryz.ntmps128
    go_wp2
    go_ret
    exact ⟨rfl, below_new _ _⟩
  · have e1 : (k == 1) = false := beq_eq_false_iff_ne.2 h1
    by_cases h2 : k = 2
    · subst h2
      go_enter Tryz.func128, Tryz.ntmps128
      go_wp2
      go_ret
      exact ⟨rfl, below_new _ _⟩
    · have e2 : (k == 2) = false := beq_eq_false_iff_ne.2 h2
      rw [show Vl.inside k n l = .bool (n == 1) by unfold Vl.inside; rw [if_neg h1, if_neg h2]]
      clear h1 h2
      go_enter Tryz.func128, Tryz.ntmps128
      go_wp2
      go_ret
      exact ⟨rfl, below_new _ _⟩

theorem quoted_list (l : List UInt8) (w : World) (hs : l.length ≤ 2000000) (hu : Vl.utf l = true) : Calls Tryz.prog 129 #[.string ⟨l.toArray⟩] w fun e w' => e = .returned (.string ⟨(Vl.quoted l).toArray⟩) ∧ Below w.heap.size w w' :=
  quoted_any ⟨l.toArray⟩ w (by rw [mk_size]; exact hs) hu
theorem formatBool_list (b : Bool) (w : World) : Calls Tryz.prog 130 #[.bool b] w fun e w' => e = .returned (.string ⟨(if b then Vl.tru else Vl.fls).toArray⟩) ∧ Below w.heap.size w w' := by
  refine (formatBool_any b w).mono ?_
  rintro e w' ⟨rfl, rfl⟩
  rw [Vl.formatBool_eq]
  exact ⟨rfl, Below.refl _ _⟩

set_option maxRecDepth 20000 in
theorem text_right (k n : Int) (l : List UInt8) (w : World) (hk : Keeps w) (h : Vl.Right k n l) : Calls Tryz.prog 89 #[valV k n l] w fun e w' => e = .returned (.string ⟨(Vl.text k n l).toArray⟩) ∧ Below w.heap.size w w' := by
  have hlen := h.len
  have hu := h.utf
  have ham := h.amount
  rcases h with ⟨rfl, rfl, h1, h2⟩ | ⟨rfl, rfl, h1, h2⟩ | ⟨rfl, rfl, h1, h2⟩
  · have C25 : ∀ w, Calls Tryz.prog 128 #[valV 1 n []] w fun e w' => e = .returned (.iface 3 (.int .i64 n)) ∧ Below w.heap.size w w' := fun w => inside_any 1 n [] w
    have C32 := fun w (hk : Keeps w) => itoa_any n w hk (by omega) (by omega)
    have A := as3_3
    rw [show Vl.text 1 n [] = Lib.itoa n from rfl]
    generalize Lib.itoa n = t at *
    go_enter Tryz.func89, Tryz.ntmps89
    go_wp2_with (first
      | (go_at_call 128; refine (C25 _).mono ?_; rintro e w1 ⟨rfl, hb1⟩; have B1 := bchain (below_new w (valO 1 n [])) hb1)
      | (go_at_call 44; refine (C32 _ (hk.on B1)).mono ?_; rintro e w2 ⟨rfl, hb2⟩))
    go_ret
    exact ⟨rfl, bchain B1 hb2⟩
  · have C25 : ∀ w, Calls Tryz.prog 128 #[valV 2 0 l] w fun e w' => e = .returned (.iface 9 (.string ⟨l.toArray⟩)) ∧ Below w.heap.size w w' := fun w => inside_any 2 0 l w
    have C33 := fun w => quoted_list l w (by omega) hu
    have A := as9_3
    have B := as9_9
    rw [Vl.text_str]
    generalize Vl.quoted l = t at *
    go_enter Tryz.func89, Tryz.ntmps89
    go_wp2_with (first
      | (go_at_call 128; refine (C25 _).mono ?_; rintro e w1 ⟨rfl, hb1⟩; have B1 := bchain (below_new w (valO 2 0 l)) hb1)
      | (go_at_call 129; refine (C33 _).mono ?_; rintro e w2 ⟨rfl, hb2⟩))
    go_ret
    exact ⟨rfl, bchain B1 hb2⟩
  · have C25 : ∀ w, Calls Tryz.prog 128 #[valV 3 n []] w fun e w' => e = .returned (.iface 4 (.bool (n == 1))) ∧ Below w.heap.size w w' := fun w => inside_any 3 n [] w
    have C34 := formatBool_list (n == 1)
    have A := as4_3
    have B := as4_9
    have C := as4_4
    rw [show (if (n == 1) = true then Vl.tru else Vl.fls) = Vl.text 3 n [] by rw [show Vl.text 3 n [] = (if n = 1 then Vl.tru else Vl.fls) from rfl]; by_cases e : n = 1 <;> simp [e]] at C34
    generalize Vl.text 3 n [] = t at *
    generalize (n == 1) = q at *
    go_enter Tryz.func89, Tryz.ntmps89
    go_wp2_with (first
      | (go_at_call 128; refine (C25 _).mono ?_; rintro e w1 ⟨rfl, hb1⟩; have B1 := bchain (below_new w (valO 3 n [])) hb1)
      | (go_at_call 130; refine (C34 _).mono ?_; rintro e w2 ⟨rfl, hb2⟩))
    go_ret
    exact ⟨rfl, bchain B1 hb2⟩


end Go.Proofs.YthlhopdlkkeohaaGreatDoor.N
/- The walks of the document's Text (of a right value), and of both Codes. -/
namespace Go.Proofs.YthlhopdlkkeohaaGreatDoor.N
open Go.RowKit

theorem isQ_iff {b : UInt8} : Nq.isQ b = true ↔ b = 34 ∨ b = 92 := by simp [Nq.isQ]
theorem drop_cons' {s : ByteArray} {pos : Nat} (h : pos < s.size) : s.data.toList.drop pos = s[pos] :: s.data.toList.drop (pos + 1) := by
  rw [List.drop_eq_getElem_cons (by rw [size_len]; exact h)]
  rfl
theorem slice_one (s : ByteArray) (a : Nat) (h : a < s.size) : ∀ wx, (Instr.slice 9 (.string s) (some (.int .i64 (a : Int))) (some (.int .i64 ((a : Int) + 1))) none).run Tryz.prog wx = .ok (.string ⟨#[s[a]]⟩) wx := by
  intro wx
  have h1 := run_slice_string (P := Tryz.prog) wx 9 s .i64 .i64 (a : Int) ((a : Int) + 1) Tryz.underlying9 (by omega) (by omega) (by omega)
  have e : s.extract a (a + 1) = ⟨#[s[a]]⟩ := by
    apply ByteArray.ext
    apply Array.toList_inj.1
    simp only [ByteArray.data_extract, Array.toList_extract, List.extract_eq_take_drop]
    rw [Nat.add_sub_cancel_left, drop_cons' h]
    rfl
  rw [h1, show ((a : Int) + 1).toNat = a + 1 by omega, show (a : Int).toNat = a by omega, e]
theorem add_lists {x y : List UInt8} (h : ¬ 9223372036854775807 < x.length + y.length) (w : World) : (binOp .add 9 (.string ⟨x.toArray⟩) (.string ⟨y.toArray⟩)).run Tryz.prog w = .ok (.string ⟨(x ++ y).toArray⟩) w := by
  go_simp
  rw [cat_lists]
theorem app_bytes (acc : List UInt8) (b : UInt8) : (⟨acc.toArray⟩ : ByteArray) ++ ⟨#[b]⟩ = ⟨(acc ++ [b]).toArray⟩ := cat_lists acc [b]
/-- Where the walk through a text's bytes stands: what is written, what is still to read. -/
def qAt (l : List UInt8) (pos : Nat) (acc : List UInt8) : Prop := pos ≤ l.length ∧ acc.length ≤ 2 * pos + 1 ∧ 34 :: Nq.quote l = acc ++ Nq.quote (l.drop pos)
theorem qAt_zero (l : List UInt8) : qAt l 0 [34] := ⟨by omega, by simp, by simp⟩
end Go.Proofs.YthlhopdlkkeohaaGreatDoor.N
/- The walks of the two 'Split'. -/
namespace Go.Proofs.YthlhopdlkkeohaaGreatDoor.U
open Go.RowKit

/-! ### A builder beside texts of the call's own -/
/-! ### Split, byte by byte -/
/-- Where a walk through the bytes stands. -/
def spAt (l : List UInt8) (pos : Nat) (outs : List (List UInt8)) (word : List UInt8) : Prop := pos ≤ l.length ∧ word.length ≤ pos ∧ outs.length ≤ pos ∧ Nm.split l = Nm.sp (l.drop pos) false outs word
theorem spAt_zero (l : List UInt8) : spAt l 0 [] [] := ⟨by omega, by simp, by simp, by simp [Nm.split]⟩
theorem sp_slash (r : List UInt8) (outs : List (List UInt8)) (word : List UInt8) : Nm.sp (47 :: r) false outs word = Nm.sp r false (outs ++ [word]) [] := by
  rw [Nm.sp, if_neg (by decide), if_pos rfl]
theorem sp_esc (r : List UInt8) (outs : List (List UInt8)) (word : List UInt8) : Nm.sp (92 :: r) false outs word = Nm.sp r true outs word := by
  rw [Nm.sp, if_pos rfl]
theorem sp_escaped {b : UInt8} (r : List UInt8) (outs : List (List UInt8)) (word : List UInt8) (h : Nm.isQ b = true) : Nm.sp (b :: r) true outs word = Nm.sp r false outs (word ++ [b]) := by
  rw [Nm.sp, if_pos h]
theorem sp_wrong {b : UInt8} (r : List UInt8) (outs : List (List UInt8)) (word : List UInt8) (h : Nm.isQ b = false) : Nm.sp (b :: r) true outs word = none := by
  rw [Nm.sp, if_neg (by rw [h]; simp)]
theorem byte_of {b c : UInt8} (h : b.toNat = c.toNat) : b = c := UInt8.toNat_inj.1 h

/-- What the two tell. -/
def splitL (l : List UInt8) : List (List UInt8) := (Nm.split l).getD []
def splitOk (l : List UInt8) : Bool := (Nm.split l).isSome
theorem splitL_none {l : List UInt8} (h : Nm.split l = none) : splitL l = [] ∧ splitOk l = false := by simp [splitL, splitOk, h]
theorem splitL_some {l : List UInt8} {x : List (List UInt8)} (h : Nm.split l = some x) : splitL l = x ∧ splitOk l = true := by simp [splitL, splitOk, h]

/-! ### Split, character by character -/
/-- Where a walk through the characters stands. -/
def splAt (l : List UInt8) (pos fr : Nat) (esc : Bool) (outs : List (List UInt8)) (acc : List UInt8) : Prop := fr ≤ pos ∧ pos ≤ l.length ∧ acc.length + (pos - fr) ≤ pos ∧ outs.length ≤ pos ∧ Nm.split l = Nm.sp (l.drop pos) esc outs (acc ++ (l.take pos).drop fr)
theorem splAt_zero (l : List UInt8) : splAt l 0 0 false [] [] := ⟨by omega, by omega, by simp, by simp, by simp [Nm.split]⟩
end Go.Proofs.YthlhopdlkkeohaaGreatDoor.U
/- The walk of 'each' with name.Quote and with pack.Text: what a function answers to each part, in a row of its own. -/
namespace Go.Proofs.YthlhopdlkkeohaaGreatDoor.U
open Go.RowKit

/-- A row of one's own stands through a call. -/
theorem own_on {w w' : World} {B : Nat} {e : TypeId} {v : Value} {n : Nat} {xs : List Value} (h : w.ownsRow B e 1 v n xs) (hb : Below w.heap.size w w') : w'.ownsRow B e 1 v n xs := by
  refine ⟨h.1, ?_⟩
  rcases h.2 with h0 | ⟨g, cap, cur, h1, h2, h3, h4⟩
  · exact Or.inl h0
  · exact Or.inr ⟨g, cap, cur, h1, h2, (hb.block g (heap_lt h3)).trans h3, h4⟩
theorem quote_list (l : List UInt8) (w : World) (hl : l.length ≤ 2000000) : Calls Tryz.prog 88 #[.string ⟨l.toArray⟩] w fun e w' => e = .returned (.string ⟨(Nm.quote l).toArray⟩) ∧ Below w.heap.size w w' :=
  quote_any ⟨l.toArray⟩ w (by simp [ByteArray.size]; exact hl)
theorem map_take_succ (f : List UInt8 → List UInt8) {xs : List (List UInt8)} {k : Nat} (h : k < xs.length) : (xs.map f).take (k + 1) = (xs.map f).take k ++ [f xs[k]] := by
  rw [List.take_succ_eq_append_getElem (by rw [List.length_map]; exact h), List.getElem_map]

set_option maxRecDepth 20000 in
set_option maxHeartbeats 2000000 in
theorem each_quote (v : Value) (xs : List (List UInt8)) (w : World) (hx : xs.length ≤ 1000) (hz : ∀ x ∈ xs, x.length ≤ 1000000) (hv : strsAt w v xs) :
    Calls Tryz.prog 87 #[v, .func (.func 88) #[] #[]] w fun e w' => ∃ u, e = .returned u ∧ w'.ownsRow w.heap.size 9 1 u xs.length (cellsS (xs.map Nm.quote)) ∧ Below w.heap.size w w' := by
  obtain ⟨i0, hi, hz0, hz1, hz2⟩ := info_parts info9
  obtain ⟨ao, ca, rfl, _, hc⟩ := hv
  go_enter Tryz.func87, Tryz.ntmps87
  go_wp2_with (refine wpList_make_own _ rfl _ _ 24 rfl w.heap.size 9 i0 (.string ⟨#[]⟩) 1 Tryz.underlying24 hi hz0 hz1 _ _ _ xs.length rfl rfl rfl (by rw [hz2]; omega) (by unfold maxLen; omega) (Nat.le_refl _) ?_)
  intro w0 hown0 hg0
  have hb0 : Below w.heap.size w w0 := (Below.refl _ w).grown hg0 (Nat.le_refl _) (fun k hk => by cases hk)
  generalize Value.slice (some ⟨w.heap.size, 0, none⟩) 0 xs.length = v0 at *
  go_wp2
  go_loopw [5, 13] (fun u i wr => ∃ k : Nat, k ≤ xs.length ∧ i = .int .i64 k ∧ wr.ownsRow w.heap.size 9 1 u k (cellsS ((xs.map Nm.quote).take k)) ∧ Below w.heap.size w wr) (fun _ i _ => xs.length - (intOf i).toNat)
  case atStart => exact ⟨0, by omega, rfl, hown0, hb0⟩
  case round =>
    obtain ⟨k, hk, rfl, hown, hbw⟩ := hrel
    by_cases hlt : k < xs.length
    · obtain ⟨ad, rfl, hA⟩ := hc k hlt
      have hA2 : wr.cell? (ad.add k) = some (.string ⟨(xs[k]).toArray⟩) := (hbw.cell (World.block_lt_of_cell? _ _ hA)).trans hA
      have HT : Hid ((xs.map Nm.quote).take (k + 1) = (xs.map Nm.quote).take k ++ [Nm.quote xs[k]]) := map_take_succ _ hlt
      have HC := fun W => quote_list xs[k] W (Nat.le_trans (hz _ (List.getElem_mem hlt)) (by omega))
      clear hc hA hz
      generalize Nm.quote xs[k] = y at *
      generalize xs[k] = x at *
      go_wp2_with (go_at_call 88; refine (HC _).mono ?_)
      rintro e w1 ⟨rfl, hb1⟩
      have hown1 := own_on hown hb1
      have hs1 : w.heap.size ≤ w1.heap.size := Nat.le_trans hbw.size hb1.size
      have hbw1 : Below w.heap.size w w1 := hbw.trans (hb1.mono hbw.size)
      go_wp2_with (at_builtin; refine wpList_append_own _ rfl _ _ 24 rfl w.heap.size 9 i0 (.string ⟨#[]⟩) 1 16 Tryz.underlying24 hi hz0 hz1 hz2 rfl (by decide) _ _ _ rfl (hown1.alloc _) ⟨_, 0, none⟩ 1 1 [.string ⟨y.toArray⟩] rfl rfl (one_new5 _ _ _) (one_cellS _) ?c3 ?c4 ?c5 ?_)
      case c3 => unfold maxLen; omega
      case c4 => omega
      case c5 => simp; omega
      intro v' w2 hown' hgrow _
      have R1 := own_below hown1 hs1 hbw1 hgrow
      rw [cellsS_snoc, ← HT.out] at hown'
      clear hgrow hown hown1
      go_wp2
      go_roundw
      case rel => exact ⟨k + 1, by omega, by go_num, hown', R1⟩
      case measure => simp [intOf]; omega
    · obtain rfl : k = xs.length := by omega
      rw [List.take_of_length_le (by rw [List.length_map]; exact Nat.le_refl _)] at hown
      clear hc hz
      go_wp2
      go_ret
      exact ⟨_, rfl, hown, hbw⟩

end Go.Proofs.YthlhopdlkkeohaaGreatDoor.U
