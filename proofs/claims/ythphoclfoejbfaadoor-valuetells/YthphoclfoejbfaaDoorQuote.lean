/- The walks of quoted (of a text that is UTF-8) and unquoted (of any). -/
import Derived.Test.YthphoclfoejbfaaDoorSteps
namespace Go.Proofs.YthphoclfoejbfaaDoor
open Go.RowKit

/-- The byte in front of what is quoted; the character is that byte. -/
theorem isQN_byte {l : List UInt8} (hne : l ≠ []) (h : U.isQN (Lib.decodeL l).1 = true) : ∃ b t, l = b :: t ∧ Nm.isQ b = true ∧ (Lib.decodeL l).2 = 1 ∧ b.toNat = (Lib.decodeL l).1 := by
  cases l with
  | nil => exact absurd rfl hne
  | cons b t =>
    rcases Nm.chunk (b :: t) hne with ⟨h1, h2⟩ | ⟨_, h2, _⟩
    · rw [h2] at h
      simp only [List.getD_cons_zero] at h h1 h2
      refine ⟨b, t, rfl, ?_, by rw [h2], by rw [h2]⟩
      simp only [U.isQN, Bool.or_eq_true, beq_iff_eq] at h
      simp only [Nm.isQ, Bool.or_eq_true, beq_iff_eq]
      rcases h with h | h
      · left; exact UInt8.toNat_inj.1 h
      · right; exact UInt8.toNat_inj.1 h
    · simp only [U.isQN, Bool.or_eq_true, beq_iff_eq] at h
      omega
/-- No byte of another character is a quote or an escape. -/
theorem isQN_none {l : List UInt8} (hne : l ≠ []) (h : U.isQN (Lib.decodeL l).1 = false) : ∀ x ∈ l.take (Lib.decodeL l).2, Nm.isQ x = false := by
  rcases Nm.chunk l hne with ⟨h1, h2⟩ | ⟨_, _, h3⟩
  · intro x hx
    rw [h2] at h hx
    cases l with
    | nil => exact absurd rfl hne
    | cons b t =>
      simp only [List.getD_cons_zero] at h
      simp at hx
      subst hx
      simp only [U.isQN, Bool.or_eq_false_iff, beq_eq_false_iff_ne] at h
      simp only [Nm.isQ, Bool.or_eq_false_iff, beq_eq_false_iff_ne]
      refine ⟨fun e => h.1 (by rw [e]; rfl), fun e => h.2 (by rw [e]; rfl)⟩
  · intro x hx
    exact Nm.isQ_high (h3 x hx)
/-- Where a walk through the characters stands: what is written, what is still to read. -/
def quoAt (l : List UInt8) (pos : Nat) (acc : List UInt8) : Prop := pos ≤ l.length ∧ acc.length ≤ 2 * pos + 1 ∧ Vl.utf (l.drop pos) = true ∧ 34 :: Nm.quote l = acc ++ Nm.quote (l.drop pos)
theorem quoAt_zero {l : List UInt8} (h : Vl.utf l = true) : quoAt l 0 [34] := ⟨by omega, by simp, by simpa using h, by simp⟩
theorem quoAt_step {l : List UInt8} {pos : Nat} {acc : List UInt8} (h : quoAt l pos acc) (hne : l.drop pos ≠ []) (hq : U.isQN (Lib.decodeL (l.drop pos)).1 = false) : quoAt l (pos + (Lib.decodeL (l.drop pos)).2) (acc ++ Lib.encodeRune ((Lib.decodeL (l.drop pos)).1 : Int)) := by
  have h1 := Lib.decodeL_le _ hne
  have hw := Lib.decodeL_width (l.drop pos)
  rw [List.length_drop] at h1
  obtain ⟨a1, a2, a3, a4⟩ := h
  obtain ⟨hb, hr⟩ := Vl.runes_some hne a3
  rw [Lib.encode_decode _ hne (Nm.not_bad hb)]
  refine ⟨by omega, ?_, by rw [Nm.drop_rest] at hr; exact hr, ?_⟩
  · rw [List.length_append, List.length_take, List.length_drop]; omega
  · have e : Nm.quote (l.drop pos) = (l.drop pos).take (Lib.decodeL (l.drop pos)).2 ++ Nm.quote (l.drop (pos + (Lib.decodeL (l.drop pos)).2)) := by
      conv => lhs; rw [← List.take_append_drop (Lib.decodeL (l.drop pos)).2 (l.drop pos)]
      rw [Nm.quote_append, Nm.quote_high (isQN_none hne hq), List.drop_drop]
    rw [a4, e]
    simp
theorem quoAt_esc {l : List UInt8} {pos : Nat} {acc : List UInt8} (h : quoAt l pos acc) (hne : l.drop pos ≠ []) (hq : U.isQN (Lib.decodeL (l.drop pos)).1 = true) : quoAt l (pos + (Lib.decodeL (l.drop pos)).2) (acc ++ [92] ++ Lib.encodeRune ((Lib.decodeL (l.drop pos)).1 : Int)) := by
  have h1 := Lib.decodeL_le _ hne
  rw [List.length_drop] at h1
  obtain ⟨b, t, e1, e2, e3, e5⟩ := isQN_byte hne hq
  obtain ⟨a1, a2, a3, a4⟩ := h
  obtain ⟨hb, hr⟩ := Vl.runes_some hne a3
  rw [Lib.encode_decode _ hne (Nm.not_bad hb)]
  rw [Nm.drop_rest] at hr
  rw [e3] at h1 hr ⊢
  have e4 : l.drop (pos + 1) = t := by rw [← List.drop_drop, e1]; rfl
  refine ⟨by omega, ?_, hr, ?_⟩
  · simp only [List.length_append, List.length_take, List.length_singleton]
    omega
  · rw [e4, a4, e1, Nm.quote_cons, if_pos e2]
    simp
theorem quoAt_end {l : List UInt8} {pos : Nat} {acc : List UInt8} (h : quoAt l pos acc) (hn : l.drop pos = []) : Vl.quoted l = acc ++ [34] := by
  obtain ⟨a1, a2, a3, a4⟩ := h
  rw [hn, Nm.quote_nil, List.append_nil] at a4
  rw [← a4]; rfl

set_option maxRecDepth 100000 in
set_option maxHeartbeats 4000000 in
theorem quoted_any (s : ByteArray) (w : World) (hs : s.size ≤ 2000000) (hu : Vl.utf s.data.toList = true) :
    Calls Tryd.prog 33 #[.string s] w fun e w' => e = .returned (.string ⟨(Vl.quoted s.data.toList).toArray⟩) ∧ Below w.heap.size w w' := by
  have H0 := Lib.IsBuilderF.of (Lib.fresh_isBuilder 70 5 w)
  have HU : Hid (quoAt s.data.toList 0 [34]) := by have h := quoAt_zero hu; exact h
  clear hu
  go_enter Tryd.func33, Tryd.ntmps33
  go_wp2_with (first | (go_at_call 53; refine (U.writeByte_any w.heap.size w.heap.size _ 34 _ H0 (by simp) (by simp)).mono ?_) | go_in)
  rintro e W0 ⟨rfl, h0, b0, k0⟩
  have hsz0 := b0.size
  have hB0 : Below w.heap.size w W0 := ((Below.refl _ w).alloc (Nat.le_refl _) _).trans b0
  clear b0 k0 H0
  have hg : w.heap.size < W0.heap.size := by simp at hsz0; omega
  go_wp2
  go_loopw [] (fun wr => ∃ (pos : Nat) (acc : List UInt8), Lib.IsBuilderF 70 5 w.heap.size w.heap.size (Lib.byteCells acc) wr ∧ wr.heap[W0.heap.size]? = some (.stringIter s pos) ∧ Below w.heap.size w wr ∧ quoAt s.data.toList pos acc) (fun wr => s.size - wr.iterPos W0.heap.size)
  case atStart =>
    refine ⟨0, [34], ?_, ?_, hB0.alloc (by omega) _, HU.out⟩
    · have h1 : Lib.IsBuilderF 70 5 w.heap.size w.heap.size (Lib.byteCells [34]) W0 := h0
      exact h1.alloc _
    · have := World.iter_heap W0 s 0
      simpa using this
  case round =>
    obtain ⟨pos, acc, hI, hit, hbw, hR⟩ := hrel
    have hsz : W0.heap.size < wr.heap.size := U.heap_lt hit
    have hpl := hR.1
    rw [size_len] at hpl
    have hal := hR.2.1
    by_cases hp : pos < s.size
    · have hnx : ∀ ty, (Instr.next (.pointer (some ⟨W0.heap.size, 0, none⟩)) true ty).run Tryd.prog wr = _ := fun ty => Lib.run_next_any_at wr W0.heap.size s pos ty hit hp
      have HE : Hid (s.data.toList.drop pos ≠ []) := U.drop_ne hp
      have HD : Hid (Lib.decodeL (s.data.toList.drop pos) = Utf8.decode s pos) := Lib.decodeL_drop s pos
      have hd1 := decode_le s pos
      have hwd : 1 ≤ (Utf8.decode s pos).2 := by rw [← HD.out]; exact Lib.decodeL_width _
      have hI2 := hI.iterAt hit (pos + (Utf8.decode s pos).2)
      have hit2 := Lib.iterAt_heap wr W0.heap.size s pos (pos + (Utf8.decode s pos).2) hit
      have hbw2 := Lib.below_iterAt hbw (k := W0.heap.size) (by omega) s (pos + (Utf8.decode s pos).2)
      have hsz2 : w.heap.size ≤ (wr.iterAt W0.heap.size s (pos + (Utf8.decode s pos).2)).heap.size := by rw [Lib.iterAt_size]; omega
      cases hq : U.isQN (Utf8.decode s pos).1 with
      | false =>
        have HR : Hid (quoAt s.data.toList (pos + (Utf8.decode s pos).2) (acc ++ Lib.encodeRune ((Utf8.decode s pos).1 : Int))) := by
          have h := quoAt_step hR HE.out (by rw [HD.out]; exact hq)
          rw [HD.out] at h
          exact h
        clear hR
        have q1 : (((Utf8.decode s pos).1 : Int) == 34) = false := by
          simp only [U.isQN, Bool.or_eq_false_iff, beq_eq_false_iff_ne] at hq
          exact beq_eq_false_iff_ne.2 (by omega)
        have q2 : (((Utf8.decode s pos).1 : Int) == 92) = false := by
          simp only [U.isQN, Bool.or_eq_false_iff, beq_eq_false_iff_ne] at hq
          exact beq_eq_false_iff_ne.2 (by omega)
        clear hq
        go_wp2_with (first
          | (go_at_call 54; refine (U.writeRune_any w.heap.size w.heap.size _ _ (by omega) (by omega) _ hI2 (by rw [Lib.byteCells_length]; omega) hsz2).mono ?_)
          | go_in)
        rintro e W1 ⟨rfl, h1, b1, k1⟩
        go_wp2
        go_roundw
        case rel =>
          refine ⟨pos + (Utf8.decode s pos).2, acc ++ Lib.encodeRune (Utf8.decode s pos).1, ?_, k1.iter hit2 (by omega), hbw2.trans b1, HR.out⟩
          rw [Lib.byteCells_append, Lib.byteCells_encodeRune]
          exact h1
        case measure =>
          simp only [World.iterPos, k1.iter hit2 (by omega), hit]
          omega
      | true =>
        have HR : Hid (quoAt s.data.toList (pos + (Utf8.decode s pos).2) (acc ++ [92] ++ Lib.encodeRune ((Utf8.decode s pos).1 : Int))) := by
          have h := quoAt_esc hR HE.out (by rw [HD.out]; exact hq)
          rw [HD.out] at h
          exact h
        clear hR
        have q : (Utf8.decode s pos).1 = 34 ∨ (Utf8.decode s pos).1 = 92 := by
          simp only [U.isQN, Bool.or_eq_true, beq_iff_eq] at hq
          exact hq
        clear hq
        generalize (Utf8.decode s pos).2 = d at *
        rcases q with q | q
        all_goals
          rw [q] at HR hnx hd1
          clear q HD
          go_wp2_with (first
            | (go_at_call 53; refine (U.writeByte_any w.heap.size w.heap.size _ 92 _ hI2 (by rw [Lib.byteCells_length]; omega) hsz2).mono ?_)
            | go_in)
          rintro e W1 ⟨rfl, h1, b1, k1⟩
          have hit3 := k1.iter hit2 (by omega)
          have hsz3 : w.heap.size ≤ W1.heap.size := Nat.le_trans hsz2 b1.size
          go_wp2_with (first
            | (go_at_call 54; refine (U.writeRune_any w.heap.size w.heap.size _ _ (by omega) (by omega) _ h1 (by simp only [List.length_append, Lib.byteCells_length, List.length_singleton]; omega) hsz3).mono ?_)
            | go_in)
          rintro e W2 ⟨rfl, h2, b2, k2⟩
          have hit4 := k2.iter hit3 (by omega)
          go_wp2
          go_roundw
          case rel =>
            refine ⟨pos + d, _, ?_, hit4, (hbw2.trans b1).trans b2, HR.out⟩
            rw [Lib.byteCells_append, Lib.byteCells_encodeRune, Lib.byteCells_append]
            exact h2
          case measure =>
            simp only [World.iterPos, hit4, hit]
            omega
    · have hnx : ∀ ty, (Instr.next (.pointer (some ⟨W0.heap.size, 0, none⟩)) true ty).run Tryd.prog wr = _ := fun ty => Lib.run_next_end_at wr W0.heap.size s pos ty hit hp
      have HL : Hid (Vl.quoted s.data.toList = acc ++ [34]) := by
        have h := quoAt_end hR (U.drop_nil hp)
        exact h
      clear hR
      go_wp2_with (first
        | (go_at_call 53; refine (U.writeByte_any w.heap.size w.heap.size _ 34 _ hI (by rw [Lib.byteCells_length]; omega) (by omega)).mono ?_)
        | go_in)
      rintro e W1 ⟨rfl, h1, b1, k1⟩
      have h1' : Lib.IsBuilderF 70 5 w.heap.size w.heap.size (Lib.byteCells (acc ++ [34])) W1 := by rw [Lib.byteCells_append]; exact h1
      have hsz3 : w.heap.size ≤ W1.heap.size := Nat.le_trans (by omega) b1.size
      go_wp2_with (first | (go_at_call 55; refine (bString w.heap.size w.heap.size _ _ h1' hsz3).mono ?_) | go_in)
      rintro e W2 ⟨rfl, _, b2, _⟩
      go_wp2
      go_ret
      exact ⟨ret_str (by rw [HL.out]), (hbw.trans b1).trans b2⟩

/-- Where a walk through the characters of what is unquoted stands: what is written, whether an escape stands ahead, what is still to read. -/
def unqAt (l : List UInt8) (pos : Nat) (q : Bool) (acc : List UInt8) : Prop := pos ≤ l.length ∧ acc.length ≤ 4 * pos ∧ Vl.ug false l = acc ++ Vl.ug q (l.drop pos)
theorem unqAt_zero (l : List UInt8) : unqAt l 0 false [] := ⟨by omega, by simp, by simp⟩
theorem unqAt_skip {l : List UInt8} {pos : Nat} {q : Bool} {acc : List UInt8} (h : unqAt l pos q acc) (hne : l.drop pos ≠ []) (hq : ((Lib.decodeL (l.drop pos)).1 == 92 && !q) = true) : unqAt l (pos + (Lib.decodeL (l.drop pos)).2) true acc := by
  have h1 := Lib.decodeL_le _ hne
  rw [List.length_drop] at h1
  obtain ⟨a1, a2, a3⟩ := h
  refine ⟨by omega, by omega, ?_⟩
  rw [a3, Vl.ug_skip hne hq, Nm.drop_rest]
theorem unqAt_keep {l : List UInt8} {pos : Nat} {q : Bool} {acc : List UInt8} (h : unqAt l pos q acc) (hne : l.drop pos ≠ []) (hq : ((Lib.decodeL (l.drop pos)).1 == 92 && !q) = false) : unqAt l (pos + (Lib.decodeL (l.drop pos)).2) false (acc ++ Lib.encodeRune ((Lib.decodeL (l.drop pos)).1 : Int)) := by
  have h1 := Lib.decodeL_le _ hne
  have hw := Lib.decodeL_width (l.drop pos)
  have h4 := Lib.runeCells_le ((Lib.decodeL (l.drop pos)).1 : Int)
  rw [Lib.runeCells_length] at h4
  rw [List.length_drop] at h1
  obtain ⟨a1, a2, a3⟩ := h
  refine ⟨by omega, by rw [List.length_append]; omega, ?_⟩
  rw [a3, Vl.ug_keep hne hq, Nm.drop_rest]
  simp
theorem unqAt_end {l : List UInt8} {pos : Nat} {q : Bool} {acc : List UInt8} (h : unqAt l pos q acc) (hn : l.drop pos = []) : Vl.ug false l = acc := by
  obtain ⟨a1, a2, a3⟩ := h
  rw [a3, hn, Vl.ug_nil, List.append_nil]

set_option maxRecDepth 100000 in
set_option maxHeartbeats 4000000 in
theorem unquoted_any (r : ByteArray) (w : World) (hr : r.size ≤ 2000000) :
    Calls Tryd.prog 58 #[.string r] w fun e w' => e = .returned (.string ⟨(Vl.unq r.data.toList).toArray⟩) ∧ Below w.heap.size w w' := by
  obtain ⟨s, hs0⟩ : ∃ s : ByteArray, s = ⟨(Lib.trimSuffix (Lib.trimPrefix r.data.toList [34]) [34]).toArray⟩ := ⟨_, rfl⟩
  have hs : s.size ≤ 2000000 := by
    have h := Vl.trim_len r.data.toList
    rw [hs0, mk_size]
    rw [size_len] at h
    omega
  have C69 : ∀ w, Calls Tryd.prog 69 #[.string r, .string ⟨#[34]⟩] w fun e w' => e = .returned (.string ⟨(Lib.trimPrefix r.data.toList [34]).toArray⟩) ∧ w' = w := fun w => trimPrefix_any r ⟨#[34]⟩ w
  have C68 : ∀ w, Calls Tryd.prog 68 #[.string ⟨(Lib.trimPrefix r.data.toList [34]).toArray⟩, .string ⟨#[34]⟩] w fun e w' => e = .returned (.string s) ∧ w' = w := fun w => by
    have h := trimSuffix_any ⟨(Lib.trimPrefix r.data.toList [34]).toArray⟩ ⟨#[34]⟩ w (by
      have h1 : (Lib.trimPrefix r.data.toList [34]).length ≤ r.data.toList.length := by unfold Lib.trimPrefix; split <;> simp
      rw [size_len] at h1
      rw [mk_size]; omega)
    rw [hs0]; exact h
  rw [show Vl.unq r.data.toList = Vl.ug false s.data.toList by rw [hs0]; rfl]
  have H0 := Lib.IsBuilderF.of (Lib.fresh_isBuilder 70 5 w)
  generalize (Lib.trimPrefix r.data.toList [34]) = m at *
  clear hs0
  go_enter Tryd.func58, Tryd.ntmps58
  go_wp2_with (first
    | (go_at_call 69; refine (C69 _).mono ?_; rintro e w1 ⟨rfl, hw⟩; have hw := hw.symm; subst hw)
    | (go_at_call 68; refine (C68 _).mono ?_; rintro e w1 ⟨rfl, hw⟩; have hw := hw.symm; subst hw)
    | go_in)
  go_loopw [4] (fun v wr => ∃ (pos : Nat) (q : Bool) (acc : List UInt8), v = .bool q ∧ Lib.IsBuilderF 70 5 w.heap.size w.heap.size (Lib.byteCells acc) wr ∧ wr.heap[w.heap.size + 1]? = some (.stringIter s pos) ∧ Below w.heap.size w wr ∧ unqAt s.data.toList pos q acc) (fun _ wr => s.size - wr.iterPos (w.heap.size + 1))
  case atStart =>
    refine ⟨0, false, [], rfl, H0.alloc _, ?_, ((Below.refl _ w).alloc (Nat.le_refl _) _).alloc (by simp) _, unqAt_zero _⟩
    have := World.iter_heap (w.alloc (.cells #[.pointer none, .slice none 0 0] 70)) s 0
    simpa using this
  case round =>
    obtain ⟨pos, q, acc, rfl, hI, hit, hbw, hR⟩ := hrel
    have hsz : w.heap.size + 1 < wr.heap.size := U.heap_lt hit
    have hpl := hR.1
    rw [size_len] at hpl
    have hal := hR.2.1
    by_cases hp : pos < s.size
    · have hnx : ∀ ty, (Instr.next (.pointer (some ⟨w.heap.size + 1, 0, none⟩)) true ty).run Tryd.prog wr = _ := fun ty => Lib.run_next_any_at wr (w.heap.size + 1) s pos ty hit hp
      have HE : Hid (s.data.toList.drop pos ≠ []) := U.drop_ne hp
      have HD : Hid (Lib.decodeL (s.data.toList.drop pos) = Utf8.decode s pos) := Lib.decodeL_drop s pos
      have hd1 := decode_le s pos
      have hwd : 1 ≤ (Utf8.decode s pos).2 := by rw [← HD.out]; exact Lib.decodeL_width _
      have hI2 := hI.iterAt hit (pos + (Utf8.decode s pos).2)
      have hit2 := Lib.iterAt_heap wr (w.heap.size + 1) s pos (pos + (Utf8.decode s pos).2) hit
      have hbw2 := Lib.below_iterAt hbw (k := w.heap.size + 1) (by omega) s (pos + (Utf8.decode s pos).2)
      have hsz2 : w.heap.size ≤ (wr.iterAt (w.heap.size + 1) s (pos + (Utf8.decode s pos).2)).heap.size := by rw [Lib.iterAt_size]; omega
      by_cases h92 : (Utf8.decode s pos).1 = 92
      · cases q with
        | false =>
          have HR : Hid (unqAt s.data.toList (pos + (Utf8.decode s pos).2) true acc) := by
            have h := unqAt_skip hR HE.out (by rw [HD.out, h92]; rfl)
            rw [HD.out] at h
            exact h
          clear hR HD
          generalize (Utf8.decode s pos).2 = d at *
          rw [h92] at hnx hd1
          clear h92
          go_wp2
          go_roundw
          case rel => exact ⟨pos + d, true, acc, rfl, hI2, hit2, hbw2, HR.out⟩
          case measure =>
            simp only [World.iterPos, hit2, hit]
            omega
        | true =>
          have HR : Hid (unqAt s.data.toList (pos + (Utf8.decode s pos).2) false (acc ++ Lib.encodeRune ((92 : Nat) : Int))) := by
            have h := unqAt_keep hR HE.out (by simp)
            rw [HD.out, h92] at h
            exact h
          clear hR HD
          generalize (Utf8.decode s pos).2 = d at *
          rw [h92] at hnx hd1
          clear h92
          go_wp2_with (first
            | (go_at_call 54; refine (U.writeRune_any w.heap.size w.heap.size _ _ (by omega) (by omega) _ hI2 (by rw [Lib.byteCells_length]; omega) hsz2).mono ?_)
            | go_in)
          rintro e W1 ⟨rfl, h1, b1, k1⟩
          go_wp2
          go_roundw
          case rel =>
            refine ⟨pos + d, false, _, rfl, ?_, k1.iter hit2 (by omega), hbw2.trans b1, HR.out⟩
            rw [Lib.byteCells_append, Lib.byteCells_encodeRune]
            exact h1
          case measure =>
            simp only [World.iterPos, k1.iter hit2 (by omega), hit]
            omega
      · have HR : Hid (unqAt s.data.toList (pos + (Utf8.decode s pos).2) false (acc ++ Lib.encodeRune ((Utf8.decode s pos).1 : Int))) := by
          have h := unqAt_keep hR HE.out (by rw [HD.out]; simp [h92])
          rw [HD.out] at h
          exact h
        clear hR HD
        have q2 : (((Utf8.decode s pos).1 : Int) == 92) = false := beq_eq_false_iff_ne.2 (by omega)
        clear h92
        go_wp2_with (first
          | (go_at_call 54; refine (U.writeRune_any w.heap.size w.heap.size _ _ (by omega) (by omega) _ hI2 (by rw [Lib.byteCells_length]; omega) hsz2).mono ?_)
          | go_in)
        rintro e W1 ⟨rfl, h1, b1, k1⟩
        go_wp2
        go_roundw
        case rel =>
          refine ⟨pos + (Utf8.decode s pos).2, false, _, rfl, ?_, k1.iter hit2 (by omega), hbw2.trans b1, HR.out⟩
          rw [Lib.byteCells_append, Lib.byteCells_encodeRune]
          exact h1
        case measure =>
          simp only [World.iterPos, k1.iter hit2 (by omega), hit]
          omega
    · have hnx : ∀ ty, (Instr.next (.pointer (some ⟨w.heap.size + 1, 0, none⟩)) true ty).run Tryd.prog wr = _ := fun ty => Lib.run_next_end_at wr (w.heap.size + 1) s pos ty hit hp
      have HL : Hid (Vl.ug false s.data.toList = acc) := by
        have h := unqAt_end hR (U.drop_nil hp)
        exact h
      clear hR
      go_wp2_with (first | (go_at_call 55; refine (bString w.heap.size w.heap.size _ _ hI (by omega)).mono ?_) | go_in)
      rintro e W2 ⟨rfl, _, b2, _⟩
      go_wp2
      go_ret
      exact ⟨ret_str (by rw [HL.out]), hbw.trans b2⟩
end Go.Proofs.YthphoclfoejbfaaDoor
