/- The walks of 'Same', the two 'Quote' · An operation in memory: a value of seven cells; in a variable; loads of its parts. -/
import Derived.Test.YthlhopdlkkeohaaGreatDoorMemAll
/- The walks of 'Same', the two 'Quote'. -/
namespace Go.Proofs.YthlhopdlkkeohaaGreatDoor.U
open Go.RowKit

/-! ### Texts in memory -/
def cellsS (l : List (List UInt8)) : List Value := l.map fun x => .string ⟨x.toArray⟩
theorem cellsS_snoc (l : List (List UInt8)) (x : List UInt8) : cellsS l ++ [.string ⟨x.toArray⟩] = cellsS (l ++ [x]) := by simp [cellsS]
theorem cellsS_length (l : List (List UInt8)) : (cellsS l).length = l.length := by simp [cellsS]
theorem cellsS_at {l : List (List UInt8)} {k : Nat} (h : k < l.length) : (cellsS l)[k]? = some (.string ⟨(l[k]).toArray⟩) := by simp [cellsS, List.getElem?_eq_getElem h]
/-- A slice in memory reads as these texts. -/
def strsAt (w : World) (v : Value) (xs : List (List UInt8)) : Prop := ∃ ao cap, v = .slice ao xs.length cap ∧ xs.length ≤ cap ∧ ∀ k (h : k < xs.length), ∃ ad, ao = some ad ∧ w.cell? (ad.add k) = some (.string ⟨(xs[k]).toArray⟩)
theorem strsAt_nil (w : World) : strsAt w (.slice none 0 0) [] := ⟨none, 0, rfl, Nat.le_refl _, fun k h => by simp at h⟩
theorem strsAt_own {w : World} {B : Nat} {v : Value} {xs : List (List UInt8)} (h : w.ownsRow B 9 1 v xs.length (cellsS xs)) : strsAt w v xs := by
  rcases h.2 with ⟨rfl, h0⟩ | ⟨g, cap, cur, rfl, r⟩
  · obtain rfl : xs = [] := List.eq_nil_of_length_eq_zero h0
    exact strsAt_nil w
  · exact ⟨_, cap, rfl, r.2.2.1, fun k hk => ⟨_, rfl, h.cells rfl k _ (cellsS_at hk)⟩⟩
theorem strsAt_below {w w' : World} {B : Nat} {v : Value} {xs : List (List UInt8)} (h : strsAt w v xs) (hb : Below B w w') (hB : w.heap.size ≤ B) : strsAt w' v xs := by
  obtain ⟨ao, cap, hv, hcap, hc⟩ := h
  refine ⟨ao, cap, hv, hcap, fun k hk => ?_⟩
  obtain ⟨ad, h1, h2⟩ := hc k hk
  exact ⟨ad, h1, (hb.cell (Nat.lt_of_lt_of_le (World.block_lt_of_cell? _ _ h2) hB)).trans h2⟩

/-- So many of the texts are the same. -/
def sameTo (xs ys : List (List UInt8)) (k : Nat) : Prop := xs.take k = ys.take k
theorem sameTo_zero (xs ys : List (List UInt8)) : sameTo xs ys 0 := by simp [sameTo]
theorem sameTo_step {xs ys : List (List UInt8)} {k : Nat} (h : sameTo xs ys k) (h1 : k < xs.length) (h2 : k < ys.length) (he : xs[k] = ys[k]) : sameTo xs ys (k + 1) := by
  unfold sameTo at h ⊢
  rw [List.take_succ_eq_append_getElem h1, List.take_succ_eq_append_getElem h2, h, he]
theorem same_not {xs ys : List (List UInt8)} {k : Nat} (h1 : k < xs.length) (h2 : k < ys.length) (he : ¬ xs[k] = ys[k]) : decide (xs = ys) = false := by
  apply decide_eq_false
  intro e
  subst e
  exact he rfl
theorem same_all {xs ys : List (List UInt8)} {k : Nat} (h : sameTo xs ys k) (h1 : ¬ k < xs.length) (hl : xs.length = ys.length) : decide (xs = ys) = true := by
  apply decide_eq_true
  unfold sameTo at h
  rw [List.take_of_length_le (by omega), List.take_of_length_le (by omega)] at h
  exact h

/-! ### Quoted -/
/-- Where a walk through the characters stands: what is written, from where on the rest is not, what is still to read. -/
def quoteAt (l : List UInt8) (pos fr : Nat) (acc : List UInt8) : Prop := fr ≤ pos ∧ pos ≤ l.length ∧ acc.length + (pos - fr) ≤ 2 * pos ∧ Nm.quote l = acc ++ ((l.take pos).drop fr ++ Nm.quote (l.drop pos))
theorem quoteAt_zero (l : List UInt8) : quoteAt l 0 0 [] := ⟨by omega, by omega, by simp, by simp⟩
theorem take_chunk (l : List UInt8) {fr pos d : Nat} (h1 : fr ≤ pos) (h2 : pos ≤ l.length) : (l.take (pos + d)).drop fr = (l.take pos).drop fr ++ (l.drop pos).take d := by
  rw [List.take_add, List.drop_append_of_le_length (by simp; omega)]
/-- The byte in front of what is quoted; the character is that byte. -/
theorem isQN_byte {l : List UInt8} (hne : l ≠ []) (h : isQN (Lib.decodeL l).1 = true) : ∃ b t, l = b :: t ∧ Nm.isQ b = true ∧ (Lib.decodeL l).2 = 1 ∧ b.toNat = (Lib.decodeL l).1 := by
  cases l with
  | nil => exact absurd rfl hne
  | cons b t =>
    rcases Nm.chunk (b :: t) hne with ⟨h1, h2⟩ | ⟨_, h2, _⟩
    · rw [h2] at h
      simp only [List.getD_cons_zero] at h h1 h2
      refine ⟨b, t, rfl, ?_, by rw [h2], by rw [h2]⟩
      simp only [isQN, Bool.or_eq_true, beq_iff_eq] at h
      simp only [Nm.isQ, Bool.or_eq_true, beq_iff_eq]
      rcases h with h | h
      · left; exact UInt8.toNat_inj.1 h
      · right; exact UInt8.toNat_inj.1 h
    · simp only [isQN, Bool.or_eq_true, beq_iff_eq] at h
      omega
/-- No byte of another character is a slash or an escape. -/
theorem isQN_none {l : List UInt8} (hne : l ≠ []) (h : isQN (Lib.decodeL l).1 = false) : ∀ x ∈ l.take (Lib.decodeL l).2, Nm.isQ x = false := by
  rcases Nm.chunk l hne with ⟨h1, h2⟩ | ⟨_, _, h3⟩
  · intro x hx
    rw [h2] at h hx
    cases l with
    | nil => exact absurd rfl hne
    | cons b t =>
      simp only [List.getD_cons_zero] at h
      simp at hx
      subst hx
      simp only [isQN, Bool.or_eq_false_iff, beq_eq_false_iff_ne] at h
      simp only [Nm.isQ, Bool.or_eq_false_iff, beq_eq_false_iff_ne]
      refine ⟨fun e => h.1 (by rw [e]; rfl), fun e => h.2 (by rw [e]; rfl)⟩
  · intro x hx
    exact Nm.isQ_high (h3 x hx)
theorem quoteAt_step {l : List UInt8} {pos fr : Nat} {acc : List UInt8} (h : quoteAt l pos fr acc) (hne : l.drop pos ≠ []) (hq : isQN (Lib.decodeL (l.drop pos)).1 = false) : quoteAt l (pos + (Lib.decodeL (l.drop pos)).2) fr acc := by
  have h1 := Lib.decodeL_le _ hne
  rw [List.length_drop] at h1
  obtain ⟨a1, a2, a3, a4⟩ := h
  refine ⟨by omega, by omega, by omega, ?_⟩
  rw [take_chunk l a1 a2, a4]
  have e : Nm.quote (l.drop pos) = (l.drop pos).take (Lib.decodeL (l.drop pos)).2 ++ Nm.quote (l.drop (pos + (Lib.decodeL (l.drop pos)).2)) := by
    conv => lhs; rw [← List.take_append_drop (Lib.decodeL (l.drop pos)).2 (l.drop pos)]
    rw [Nm.quote_append, Nm.quote_high (isQN_none hne hq), List.drop_drop]
  rw [e]
  simp
theorem quoteAt_esc {l : List UInt8} {pos fr : Nat} {acc : List UInt8} (h : quoteAt l pos fr acc) (hne : l.drop pos ≠ []) (hq : isQN (Lib.decodeL (l.drop pos)).1 = true) : quoteAt l (pos + (Lib.decodeL (l.drop pos)).2) pos (acc ++ (l.take pos).drop fr ++ [92]) := by
  have h1 := Lib.decodeL_le _ hne
  rw [List.length_drop] at h1
  obtain ⟨b, t, e1, e2, e3, _⟩ := isQN_byte hne hq
  obtain ⟨a1, a2, a3, a4⟩ := h
  rw [e3] at h1 ⊢
  refine ⟨by omega, by omega, ?_, ?_⟩
  · simp only [List.length_append, List.length_drop, List.length_take, List.length_singleton]
    omega
  · have e4 : l.drop (pos + 1) = t := by rw [← List.drop_drop, e1]; rfl
    have e5 : (l.take (pos + 1)).drop pos = [b] := by
      rw [take_chunk l (Nat.le_refl _) a2, e1]
      simp
    rw [e4, e5, a4, e1, Nm.quote_cons, if_pos e2]
    simp

theorem quoteAt_end {l : List UInt8} {pos fr : Nat} {acc : List UInt8} (h : quoteAt l pos fr acc) (hn : l.drop pos = []) : Nm.quote l = acc ++ l.drop fr := by
  obtain ⟨a1, a2, a3, a4⟩ := h
  have : pos = l.length := by
    have := congrArg List.length hn
    rw [List.length_drop] at this
    simp at this
    omega
  rw [a4, hn, Nm.quote_nil, List.append_nil, this, List.take_length]
theorem extract_mid (s : ByteArray) {a b : Nat} : (s.extract a b).data.toList = (s.data.toList.take b).drop a := by
  rw [extract_list, List.drop_take]

set_option maxRecDepth 100000 in
set_option maxHeartbeats 4000000 in
theorem quote_any (s : ByteArray) (w : World) (hs : s.size ≤ 2000000) :
    Calls Tryz.prog 88 #[.string s] w fun e w' => e = .returned (.string ⟨(Nm.quote s.data.toList).toArray⟩) ∧ Below w.heap.size w w' := by
  go_enter Tryz.func88, Tryz.ntmps88
  go_wp2
  go_loopw [4] (fun f wr => ∃ (pos fr : Nat) (acc : List UInt8), f = .int .i64 fr ∧ Lib.IsBuilderF 102 5 w.heap.size w.heap.size (Lib.byteCells acc) wr ∧ wr.heap[w.heap.size + 1]? = some (.stringIter s pos) ∧ Below w.heap.size w wr ∧ quoteAt s.data.toList pos fr acc) (fun _ wr => s.size - wr.iterPos (w.heap.size + 1))
  case atStart =>
    refine ⟨0, 0, [], rfl, (Lib.IsBuilderF.of (Lib.fresh_isBuilder 102 5 w)).alloc _, ?_, ((Below.refl _ w).alloc (Nat.le_refl _) _).alloc (by simp) _, quoteAt_zero _⟩
    have := World.iter_heap (w.alloc (.cells #[.pointer none, .slice none 0 0] 102)) s 0
    simpa using this
  case round =>
    obtain ⟨pos, fr, acc, rfl, hI, hit, hbw, hR⟩ := hrel
    have hsz : w.heap.size + 1 < wr.heap.size := heap_lt hit
    have hfr := hR.1
    have hpl := hR.2.1
    rw [size_len] at hpl
    have hal := hR.2.2.1
    by_cases hp : pos < s.size
    · have hnx : ∀ ty, (Instr.next (.pointer (some ⟨w.heap.size + 1, 0, none⟩)) true ty).run Tryz.prog wr = _ := fun ty => Lib.run_next_any_at wr (w.heap.size + 1) s pos ty hit hp
      have HE : Hid (s.data.toList.drop pos ≠ []) := drop_ne hp
      have HD : Hid (Lib.decodeL (s.data.toList.drop pos) = Utf8.decode s pos) := Lib.decodeL_drop s pos
      have hd1 := decode_le s pos
      have hwd : 1 ≤ (Utf8.decode s pos).2 := by rw [← HD.out]; exact Lib.decodeL_width _
      have hI2 := hI.iterAt hit (pos + (Utf8.decode s pos).2)
      have hit2 := Lib.iterAt_heap wr (w.heap.size + 1) s pos (pos + (Utf8.decode s pos).2) hit
      have hbw2 := Lib.below_iterAt hbw (k := w.heap.size + 1) (by omega) s (pos + (Utf8.decode s pos).2)
      have hsz2 : w.heap.size ≤ (wr.iterAt (w.heap.size + 1) s (pos + (Utf8.decode s pos).2)).heap.size := by rw [Lib.iterAt_size]; omega
      have HQ := isQuoted_any (Utf8.decode s pos).1
      cases hq : isQN (Utf8.decode s pos).1 with
      | false =>
        rw [hq] at HQ
        have HR : Hid (quoteAt s.data.toList (pos + (Utf8.decode s pos).2) fr acc) := by
          have h := quoteAt_step hR HE.out (by rw [HD.out]; exact hq)
          rw [HD.out] at h
          exact h
        clear hR
        go_wp2_with (first | (go_at_call 127; refine (HQ _ hd1).mono ?_; rintro e W1 ⟨rfl, rfl⟩) | go_in)
        go_roundw
        case rel => exact ⟨_, fr, acc, rfl, hI2, hit2, hbw2, HR.out⟩
        case measure =>
          simp only [World.iterPos, hit2, hit]
          omega
      | true =>
        rw [hq] at HQ
        have HR : Hid (quoteAt s.data.toList (pos + (Utf8.decode s pos).2) pos (acc ++ (s.data.toList.take pos).drop fr ++ [92])) := by
          have h := quoteAt_esc hR HE.out (by rw [HD.out]; exact hq)
          rw [HD.out] at h
          exact h
        clear hR
        have HX : Hid (Lib.strCells (s.extract fr pos) = Lib.byteCells ((s.data.toList.take pos).drop fr)) := by
          have h : Lib.strCells (s.extract fr pos) = Lib.byteCells ((s.data.toList.take pos).drop fr) := by rw [Lib.strCells_eq, extract_mid s]
          exact h
        go_wp2_with (first
          | (go_at_call 127; refine (HQ _ hd1).mono ?_; rintro e W1 ⟨rfl, rfl⟩)
          | (go_at_call 50; refine (writeString_any w.heap.size w.heap.size _ (s.extract fr pos) _ hI2 (by rw [Lib.byteCells_length, ByteArray.size_extract]; omega) hsz2).mono ?_)
          | go_in)
        rintro e W1 ⟨rfl, h1, b1, k1⟩
        rw [HX.out, ← Lib.byteCells_append] at h1
        have hit3 := k1.iter hit2 (by omega)
        have hsz3 : w.heap.size ≤ W1.heap.size := Nat.le_trans hsz2 b1.size
        have hlen : (acc ++ (s.data.toList.take pos).drop fr).length ≤ 2 * s.size := by
          rw [List.length_append, List.length_drop, List.length_take, size_len]; omega
        go_wp2_with (first
          | (go_at_call 51; refine (writeByte_any w.heap.size w.heap.size _ 92 _ h1 (by rw [Lib.byteCells_length]; omega) hsz3).mono ?_)
          | go_in)
        rintro e W2 ⟨rfl, h2, b2, k2⟩
        have hit4 := k2.iter hit3 (by omega)
        go_wp2
        go_roundw
        case rel =>
          refine ⟨pos + (Utf8.decode s pos).2, pos, acc ++ (s.data.toList.take pos).drop fr ++ [92], rfl, ?_, hit4, (hbw2.trans b1).trans b2, HR.out⟩
          rw [Lib.byteCells_append]
          exact h2
        case measure =>
          simp only [World.iterPos, hit4, hit]
          omega
    · have hnx : ∀ ty, (Instr.next (.pointer (some ⟨w.heap.size + 1, 0, none⟩)) true ty).run Tryz.prog wr = _ := fun ty => Lib.run_next_end_at wr (w.heap.size + 1) s pos ty hit hp
      have HL : Hid (Nm.quote s.data.toList = acc ++ s.data.toList.drop fr) := by
        have h := quoteAt_end hR (drop_nil hp)
        exact h
      clear hR
      have HX : Hid (Lib.strCells (s.extract fr s.size) = Lib.byteCells (s.data.toList.drop fr)) := by
        have h : Lib.strCells (s.extract fr s.size) = Lib.byteCells (s.data.toList.drop fr) := by rw [Lib.strCells_eq, extract_high]
        exact h
      go_wp2_with (first
        | (go_at_call 50; refine (writeString_any w.heap.size w.heap.size _ (s.extract fr s.size) _ hI (by rw [Lib.byteCells_length, ByteArray.size_extract]; omega) (by omega)).mono ?_)
        | go_in)
      rintro e W1 ⟨rfl, h1, b1, k1⟩
      rw [HX.out, ← Lib.byteCells_append] at h1
      have hsz3 : w.heap.size ≤ W1.heap.size := Nat.le_trans (by omega) b1.size
      go_wp2_with (first | (go_at_call 52; refine (bString w.heap.size w.heap.size _ _ h1 hsz3).mono ?_) | go_in)
      rintro e W2 ⟨rfl, _, b2, _⟩
      go_wp2
      go_ret
      exact ⟨ret_str (by rw [HL.out]), (hbw.trans b1).trans b2⟩

theorem slice_one (s : ByteArray) (a : Nat) (h : a < s.size) : ∀ wx, (Instr.slice 9 (.string s) (some (.int .i64 (a : Int))) (some (.int .i64 ((a : Int) + 1))) none).run Tryz.prog wx = .ok (.string ⟨#[s[a]]⟩) wx := by
  intro wx
  have h1 := slice_add s a 1 (by omega) wx
  have e : s.extract a (a + 1) = ⟨#[s[a]]⟩ := by
    have := bytes_of (extract_list s a (a + 1))
    rw [this]
    have h2 : (s.data.toList.drop a).take (a + 1 - a) = [s[a]] := by
      rw [Nat.add_sub_cancel_left, List.drop_eq_getElem_cons (by rw [size_len]; exact h)]
      rfl
    rw [h2]
  rw [e] at h1
  exact h1
theorem drop_cons {s : ByteArray} {pos : Nat} (h : pos < s.size) : s.data.toList.drop pos = s[pos] :: s.data.toList.drop (pos + 1) := by
  rw [List.drop_eq_getElem_cons (by rw [size_len]; exact h)]
  rfl
theorem app_bytes (acc : List UInt8) (b : UInt8) : (⟨acc.toArray⟩ : ByteArray) ++ ⟨#[b]⟩ = ⟨(acc ++ [b]).toArray⟩ := by
  apply bytes_of
  rw [ByteArray.data_append, Array.toList_append]
def qAt (l : List UInt8) (pos : Nat) (acc : List UInt8) : Prop := pos ≤ l.length ∧ acc.length ≤ 2 * pos ∧ Nm.quote l = acc ++ Nm.quote (l.drop pos)
theorem qAt_zero (l : List UInt8) : qAt l 0 [] := ⟨by omega, by simp, by simp⟩
end Go.Proofs.YthlhopdlkkeohaaGreatDoor.U
/- An operation in memory: a value of seven cells; in a variable; loads of its parts. -/
namespace Go.Proofs.YthlhopdlkkeohaaGreatDoor.O
open Go.RowKit

/-- An operation, its slices written out. -/
abbrev opV (k : Int) (pv : Value) (vk vn : Int) (vs : List UInt8) (n : Int) (sv : Value) : Value := .agg #[.int .i64 k, pv, .int .i64 vk, .int .i64 vn, .string ⟨vs.toArray⟩, .int .i64 n, sv]
abbrev opO (k : Int) (pv : Value) (vk vn : Int) (vs : List UInt8) (n : Int) (sv : Value) : Obj := .cells #[.int .i64 k, pv, .int .i64 vk, .int .i64 vn, .string ⟨vs.toArray⟩, .int .i64 n, sv] 65
/-- An operation in a variable. -/
structure OAt (w : World) (b : Nat) (k : Int) (pv : Value) (vk vn : Int) (vs : List UInt8) (n : Int) (sv : Value) : Prop where
  c0 : w.cell? ⟨b, 0, none⟩ = some (.int .i64 k)
  c1 : w.cell? ⟨b, 1, none⟩ = some pv
  c2 : w.cell? ⟨b, 2, none⟩ = some (.int .i64 vk)
  c3 : w.cell? ⟨b, 3, none⟩ = some (.int .i64 vn)
  c4 : w.cell? ⟨b, 4, none⟩ = some (.string ⟨vs.toArray⟩)
  c5 : w.cell? ⟨b, 5, none⟩ = some (.int .i64 n)
  c6 : w.cell? ⟨b, 6, none⟩ = some sv
section
variable {w w' : World} {b : Nat} {k : Int} {pv : Value} {vk vn : Int} {vs : List UInt8} {n : Int} {sv : Value}
theorem OAt.new (w : World) (k : Int) (pv : Value) (vk vn : Int) (vs : List UInt8) (n : Int) (sv : Value) : OAt (w.alloc (opO k pv vk vn vs n sv)) w.heap.size k pv vk vn vs n sv := ⟨by simp, by simp, by simp, by simp, by simp, by simp, by simp⟩
theorem OAt.lt (h : OAt w b k pv vk vn vs n sv) : b < w.heap.size := World.block_lt_of_cell? w ⟨b, 0, none⟩ h.c0
theorem OAt.blk (h : OAt w b k pv vk vn vs n sv) (hb : w'.heap[b]? = w.heap[b]?) : OAt w' b k pv vk vn vs n sv :=
  ⟨(World.cell?_of_block (w := w) hb).trans h.c0, (World.cell?_of_block (w := w) hb).trans h.c1, (World.cell?_of_block (w := w) hb).trans h.c2, (World.cell?_of_block (w := w) hb).trans h.c3, (World.cell?_of_block (w := w) hb).trans h.c4, (World.cell?_of_block (w := w) hb).trans h.c5, (World.cell?_of_block (w := w) hb).trans h.c6⟩
theorem OAt.on (h : OAt w b k pv vk vn vs n sv) (hb : Below w.heap.size w w') : OAt w' b k pv vk vn vs n sv := h.blk (hb.block b h.lt)
theorem OAt.but {g : Nat} (h : OAt w b k pv vk vn vs n sv) (hb : But g w w') (hg : b ≠ g) : OAt w' b k pv vk vn vs n sv := h.blk (hb.block b h.lt hg)
theorem OAt.drew (h : OAt w b k pv vk vn vs n sv) : OAt w.drew b k pv vk vn vs n sv := h.blk rfl
theorem OAt.setOther (h : OAt w b k pv vk vn vs n sv) {p : Addr} (hp : p.block ≠ b) (v : Value) : OAt (w.setCell p v) b k pv vk vn vs n sv := h.blk (Below.heap_setCell w p v b (Ne.symm hp))
/-- Where a field's cells begin. -/
def off : Nat → Nat
  | 0 => 0
  | 1 => 1
  | 2 => 2
  | 3 => 5
  | _ => 6
end
section
variable {o : Oper} {a : Act} {w : World} {b : Nat} {k : Int} {pv : Value} {vk vn : Int} {vs : List UInt8} {n : Int} {sv : Value}
end
end Go.Proofs.YthlhopdlkkeohaaGreatDoor.O
