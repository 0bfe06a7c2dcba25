/- The walks of the builder's methods: copyCheck, WriteByte, WriteString, WriteRune, Reset: what each puts behind what the builder holds, and that nothing else is touched · The walks of the two 'Runes': a text's characters, put behind one another in memory of the call's own · The walks of the two 'Right' and the two 'Clean' · The walk of name.isQuoted. -/
import Derived.Test.YthlhopdlkkeohaaGreatDoorCompPAllAll
import Derived.Test.YthlhopdlkkeohaaGreatDoorCompDAllAll
/- The walks of the builder's methods: copyCheck, WriteByte, WriteString, WriteRune, Reset: what each puts behind what the builder holds, and that nothing else is touched. -/
namespace Go.Proofs.YthlhopdlkkeohaaGreatDoor.U
open Go.RowKit

theorem info44 : (Tryz.prog.info? 102).map (·.size) = some 2 := by kernel_rfl
theorem lies44 : liesAt Tryz.prog Tryz.prog.depth 102 (2 / Tryz.prog.cellsOf 102) 0 102 1 = true := by kernel_rfl
theorem info5 : (Tryz.prog.info? 5).map (fun i => (i.zero, i.size, i.bytes)) = some (some (.int .u8 0), 1, 1) := by kernel_rfl
theorem heap_lt {w : World} {b : Nat} {o : Obj} (h : w.heap[b]? = some o) : b < w.heap.size := (Array.getElem?_eq_some_iff.1 h).1
theorem one_new5 (wr : World) (x : Value) (t : TypeId) : ∀ j u, [x][j]? = some u → (wr.alloc (.cells #[x] t)).cell? ((⟨wr.heap.size, 0, none⟩ : Addr).add j) = some u := by
  intro j u hj
  match j, hj with
  | 0, hj => simp at hj; subst hj; simp [Addr.add]
theorem one_cell5 (n : Int) : ∀ u ∈ [Value.int .u8 n], u.oneCell' = true := by intro u hu; simp at hu; subst hu; rfl

/-- The address at which a builder lies. -/
abbrev at0 (b : Nat) : Value := .pointer (some ⟨b, 0, none⟩)
/-- What a method leaves: the builder holds these bytes; what lay below stands; so does all that is neither the builder nor a row of bytes. -/
def Left (B b : Nat) (bs : List Value) (w w' : World) : Prop := Lib.IsBuilderF 102 5 B b bs w' ∧ Below B w w' ∧ Lib.OthersKept 5 (some b) w w'
/-- A builder's two cells. -/
theorem two_cells {w : World} {B b : Nat} {p : Value} {bs : List Value} (h : Lib.BuilderAtF 102 5 B b p bs w) :
    ∃ u, w.cell? ⟨b, 0, none⟩ = some p ∧ w.cell? ⟨b, 1, none⟩ = some u ∧ w.frozen? ⟨b, 0, none⟩ = false ∧ w.frozen? ⟨b, 1, none⟩ = false ∧ w.ownsRowF B 5 1 u bs.length bs := by
  obtain ⟨_, u, hb, hu, _⟩ := h
  exact ⟨u, by rw [Lib.cell_of_heap hb]; rfl, by rw [Lib.cell_of_heap hb]; rfl, Lib.frozen_of_heap hb 0, Lib.frozen_of_heap hb 1, hu⟩
theorem slice_form {w : World} {B : Nat} {v : Value} {n : Nat} {xs : List Value} (h : w.ownsRowF B 5 1 v n xs) : ∃ ao cap, v = .slice ao n cap := by
  rcases h.2 with ⟨rfl, rfl⟩ | ⟨g, cap, _, _, rfl, _⟩
  · exact ⟨none, 0, rfl⟩
  · exact ⟨_, cap, rfl⟩
/-- Bytes were put behind the builder's row, and the new row is stored: a builder with these bytes. -/
theorem stored {w w2 : World} {B b : Nat} {p u v' : Value} {bs bs' : List Value} (h : Lib.BuilderAtF 102 5 B b p bs w) (hu : w.cell? ⟨b, 1, none⟩ = some u) (hg : w.grownBy w2 u.ownBlock) (hown : w2.ownsRowF B 5 1 v' bs'.length bs') (hB : B ≤ w.heap.size) :
    w2.cell? ⟨b, 0, none⟩ = some p ∧ w2.cell? ⟨b, 1, none⟩ = some u ∧ w2.frozen? ⟨b, 1, none⟩ = false ∧ Lib.BuilderAtF 102 5 B b p bs' (w2.setCell ⟨b, 1, none⟩ v') ∧ Below B w (w2.setCell ⟨b, 1, none⟩ v') ∧ Lib.OthersKept 5 (some b) w (w2.setCell ⟨b, 1, none⟩ v') := by
  obtain ⟨hBb, x, hb, hx, hne⟩ := h
  obtain rfl : x = u := by
    rw [Lib.cell_of_heap hb] at hu
    exact Option.some.inj hu
  have hb2 : w2.heap[b]? = _ := (hg.block b (heap_lt hb) (fun e => hne e.symm)).trans hb
  refine ⟨by rw [Lib.cell_of_heap hb2]; rfl, by rw [Lib.cell_of_heap hb2]; rfl, Lib.frozen_of_heap hb2 1, Lib.BuilderAtF.put hBb hb2 hown (by decide), ?_, ?_⟩
  · exact ((Below.refl B w).grown hg hB (fun k hk => (hx.lt k hk).1)).setCell (p := ⟨b, 1, none⟩) hBb _
  · exact ((Lib.OthersKept.refl 5 (some b) w).grown hg (Lib.ownsRowF_kind hx)).setCell ⟨b, 1, none⟩ rfl _

set_option maxHeartbeats 2000000 in
set_option maxRecDepth 100000 in
theorem copyCheck_used (b : Nat) (w : World) (h0 : w.cell? ⟨b, 0, none⟩ = some (at0 b)) :
    Calls Tryz.prog 92 #[at0 b] w fun e w' => e = .returned (.tuple #[]) ∧ w' = w := by
  obtain ⟨j, hj, _⟩ := Option.map_eq_some_iff.1 info44
  go_enter Tryz.func92, Tryz.ntmps92
  go_wp2
  rw [Lib.run_neq_ptr_same w _ Tryz.underlying99 hj]
  go_wp2
  go_end0
  exact ⟨rfl, rfl⟩

set_option maxHeartbeats 2000000 in
set_option maxRecDepth 100000 in
theorem copyCheck_fresh (b : Nat) (w : World) (h0 : w.cell? ⟨b, 0, none⟩ = some (.pointer none)) (hsh : w.shape? b = some (102, 2)) (hfz : w.frozen? ⟨b, 0, none⟩ = false) :
    Calls Tryz.prog 92 #[at0 b] w fun e w' => e = .returned (.tuple #[]) ∧ w' = w.setCell ⟨b, 0, none⟩ (at0 b) := by
  obtain ⟨j, hj, hjs⟩ := Option.map_eq_some_iff.1 info44
  have hto := Lib.run_to_unsafe w ⟨b, 0, none⟩ Tryz.underlying99 Tryz.underlying176 hj (by rw [hjs]; decide) hsh (Nat.zero_lt_succ 1)
  have hno : (callFunc 132 #[at0 b]).run Tryz.prog w = .ok (.value (at0 b)) w := (run_callFunc_extern Tryz.func132 (by kernel_rfl) (by kernel_rfl) (by kernel_rfl) (e := Extern.AbiNoEscape.same) (by kernel_rfl) #[at0 b] w).trans rfl
  have hfrom := Lib.run_from_unsafe w ⟨b, 0, none⟩ Tryz.underlying176 Tryz.underlying99 hj hsh lies44
  go_enter Tryz.func92, Tryz.ntmps92
  go_wp2
  go_end0
  exact ⟨rfl, rfl⟩

theorem copyCheck_any (B b : Nat) (bs : List Value) (w : World) (h : Lib.IsBuilderF 102 5 B b bs w) :
    Calls Tryz.prog 92 #[at0 b] w fun e w' => e = .returned (.tuple #[]) ∧ Lib.BuilderAtF 102 5 B b (at0 b) bs w' ∧ Below B w w' ∧ Lib.OthersKept 5 (some b) w w' := by
  rcases h with h | h
  · refine (copyCheck_fresh b w h.cell0 h.shape h.frozen0).mono fun e w' ⟨he, hw⟩ => ?_
    subst hw
    exact ⟨he, h.used _, (Below.refl B w).setCell (p := ⟨b, 0, none⟩) h.1 _, (Lib.OthersKept.refl _ _ w).setCell ⟨b, 0, none⟩ rfl _⟩
  · refine (copyCheck_used b w h.cell0).mono fun e w' ⟨he, hw⟩ => ?_
    subst hw
    exact ⟨he, h, Below.refl B _, Lib.OthersKept.refl _ _ _⟩

set_option maxHeartbeats 2000000 in
set_option maxRecDepth 100000 in
theorem writeByte_any (B b : Nat) (bs : List Value) (c : Int) (w : World) (h : Lib.IsBuilderF 102 5 B b bs w) (hlen : bs.length + 1 ≤ 140737488355328) (hBw : B ≤ w.heap.size) :
    Calls Tryz.prog 51 #[at0 b, .int .u8 c] w fun e w' => e = .returned .nilIface ∧ Left B b (bs ++ [.int .u8 c]) w w' := by
  obtain ⟨i0, hi, hz0, hz1, hz2⟩ := info_parts info5
  go_enter Tryz.func51, Tryz.ntmps51
  go_wp2_with (go_at_call 92; refine (copyCheck_any B b bs _ h).mono ?_)
  rintro e w1 ⟨rfl, hA, b1, k1⟩
  obtain ⟨u, c0, c1, _, _, hu⟩ := two_cells hA
  have hs1 := b1.size
  go_wp2_with (at_builtin; refine wpList_append_ownF _ rfl _ _ 100 rfl B 5 i0 (.int .u8 0) 1 1 Tryz.underlying100 hi hz0 hz1 hz2 rfl (by decide) _ _ _ rfl (hu.alloc _) ⟨w1.heap.size, 0, none⟩ 1 1 [.int .u8 c] rfl rfl (one_new5 w1 _ _) (one_cell5 _) ?room ?bytes ?old ?_)
  case room => unfold maxLen; omega
  case bytes => omega
  case old => simp; omega
  intro v' w2 hown hg _
  obtain ⟨d0, d1, f1, R1, R2, R3⟩ := stored (v' := v') (bs' := bs ++ [.int .u8 c]) (hA.alloc _) ((World.cell?_of_block (Lib.alloc_old w1 _ b hA.lt)).trans c1) hg (by simpa using hown) (by simp; omega)
  obtain ⟨ao, cap, rfl⟩ := slice_form hown
  go_wp2
  go_ret
  exact ⟨rfl, .inr R1, b1.trans (((Below.refl B w1).alloc (by omega) _).trans R2), k1.trans (((Lib.OthersKept.refl _ _ w1).alloc _).trans R3)⟩

set_option maxHeartbeats 2000000 in
set_option maxRecDepth 100000 in
theorem writeString_any (B b : Nat) (bs : List Value) (s : ByteArray) (w : World) (h : Lib.IsBuilderF 102 5 B b bs w) (hlen : bs.length + s.size ≤ 140737488355328) (hBw : B ≤ w.heap.size) :
    Calls Tryz.prog 50 #[at0 b, .string s] w fun e w' => e = .returned (.tuple #[.int .i64 s.size, .nilIface]) ∧ Left B b (bs ++ Lib.strCells s) w w' := by
  obtain ⟨i0, hi, hz0, hz1, hz2⟩ := info_parts info5
  go_enter Tryz.func50, Tryz.ntmps50
  go_wp2_with (go_at_call 92; refine (copyCheck_any B b bs _ h).mono ?_)
  rintro e w1 ⟨rfl, hA, b1, k1⟩
  obtain ⟨u, c0, c1, _, _, hu⟩ := two_cells hA
  have hs1 := b1.size
  go_wp2_with (at_builtin; refine Lib.wpList_append_own_stringF _ rfl _ _ 100 9 rfl B 5 i0 Tryz.underlying100 Tryz.underlying9 hi hz0 hz1 hz2 _ _ _ rfl hu s rfl ?room ?bytes ?old ?_)
  case room => unfold maxLen; omega
  case bytes => omega
  case old => omega
  intro v' w2 hown hg _
  obtain ⟨d0, d1, f1, R1, R2, R3⟩ := stored (v' := v') (bs' := bs ++ Lib.strCells s) hA c1 hg (by simpa [Lib.strCells_length] using hown) (by omega)
  obtain ⟨ao, cap, rfl⟩ := slice_form hown
  go_wp2
  go_ret2
  exact ⟨rfl, .inr R1, b1.trans R2, k1.trans R3⟩

theorem sub_same (a b : Nat) : ((a : Int) + (b : Int) - (a : Int)) = (b : Int) := by omega

theorem builder_at {w : World} {B b : Nat} {bs : List Value} (h : Lib.IsBuilderF 102 5 B b bs w) : ∃ p, Lib.BuilderAtF 102 5 B b p bs w := h.elim (fun x => ⟨_, x⟩) (fun x => ⟨_, x⟩)

end Go.Proofs.YthlhopdlkkeohaaGreatDoor.U
/- The walks of the two 'Runes': a text's characters, put behind one another in memory of the call's own. -/
namespace Go.Proofs.YthlhopdlkkeohaaGreatDoor.U
open Go.RowKit

/-! ### Memory of the call's own, beside a range's iterator -/
/-- One element more: what lay below stands, and so does the iterator. -/
theorem own_below {w wr w1 : World} {B : Nat} {e : TypeId} {v : Value} {n : Nat} {xs : List Value} {o : Obj} (hown : wr.ownsRow B e 1 v n xs) (hB : B ≤ wr.heap.size) (hbw : Below B w wr) (hgrow : (wr.alloc o).grownBy w1 v.ownBlock) : Below B w w1 :=
  (hbw.alloc hB o).grown hgrow (by simp; omega) (fun k hk => (hown.lt k hk).1)
/-- Characters as cells. -/
def cells32 (l : List Nat) : List Value := l.map fun c : Nat => .int .i32 (c : Int)
def cells64 (l : List Nat) : List Value := l.map fun c : Nat => .int .i64 (c : Int)
theorem cells32_snoc (l : List Nat) (c : Nat) : cells32 l ++ [.int .i32 (c : Int)] = cells32 (l ++ [c]) := by simp [cells32]
theorem cells64_snoc (l : List Nat) (c : Nat) : cells64 l ++ [.int .i64 (c : Int)] = cells64 (l ++ [c]) := by simp [cells64]
theorem cells32_ff (l : List Nat) : cells32 l ++ [.int .i32 65533] = cells32 (l ++ [65533]) := by simp [cells32]
theorem cells32_length (l : List Nat) : (cells32 l).length = l.length := by simp [cells32]
theorem cells64_length (l : List Nat) : (cells64 l).length = l.length := by simp [cells64]
theorem info21 : (Tryz.prog.info? 21).map (fun i => (i.zero, i.size, i.bytes)) = some (some (.int .i32 0), 1, 4) := by kernel_rfl
theorem info3 : (Tryz.prog.info? 3).map (fun i => (i.zero, i.size, i.bytes)) = some (some (.int .i64 0), 1, 8) := by kernel_rfl
theorem info9 : (Tryz.prog.info? 9).map (fun i => (i.zero, i.size, i.bytes)) = some (some (.string ⟨#[]⟩), 1, 16) := by kernel_rfl
theorem one_cell32 (n : Int) : ∀ u ∈ [Value.int .i32 n], u.oneCell' = true := by intro u hu; simp at hu; subst hu; rfl
theorem one_cell64 (n : Int) : ∀ u ∈ [Value.int .i64 n], u.oneCell' = true := by intro u hu; simp at hu; subst hu; rfl
theorem one_cellS (s : ByteArray) : ∀ u ∈ [Value.string s], u.oneCell' = true := by intro u hu; simp at hu; subst hu; rfl

theorem extract_high (s : ByteArray) (k : Nat) : s.extract k s.size = ⟨(s.data.toList.drop k).toArray⟩ := by
  apply ByteArray.ext
  apply Array.toList_inj.1
  simp only [ByteArray.data_extract, Array.toList_extract, List.extract_eq_take_drop]
  exact List.take_of_length_le (by simp)
theorem drop_ne {s : ByteArray} {pos : Nat} (h : pos < s.size) : s.data.toList.drop pos ≠ [] := by
  intro e
  have := congrArg List.length e
  rw [List.length_drop, size_len] at this
  simp at this
  omega
theorem drop_nil {s : ByteArray} {pos : Nat} (h : ¬ pos < s.size) : s.data.toList.drop pos = [] := List.drop_eq_nil_of_le (by rw [size_len]; omega)

/-- Where a walk through the characters stands: those that were told, what is still to read. -/
def runesAt (l : List UInt8) (pos : Nat) (acc : List Nat) : Prop := pos ≤ l.length ∧ acc.length ≤ pos ∧ Nm.runes l = (Nm.runes (l.drop pos)).map (acc ++ ·)
theorem runesAt_zero (l : List UInt8) : runesAt l 0 [] := ⟨by omega, by simp, by simp⟩
theorem runesAt_step {l : List UInt8} {pos : Nat} {acc : List Nat} (h : runesAt l pos acc) (hne : l.drop pos ≠ []) (hb : Nm.isBad (l.drop pos) = false) :
    runesAt l (pos + (Lib.decodeL (l.drop pos)).2) (acc ++ [(Lib.decodeL (l.drop pos)).1]) := by
  have h1 := Lib.decodeL_le _ hne
  have h2 := Lib.decodeL_width (l.drop pos)
  rw [List.length_drop] at h1
  refine ⟨by have := h.1; omega, by have := h.2.1; simp; omega, ?_⟩
  rw [h.2.2, Nm.runes_step hne hb, Nm.drop_rest]
  cases Nm.runes (l.drop (pos + (Lib.decodeL (l.drop pos)).2)) <;> simp
theorem runesAt_bad {l : List UInt8} {pos : Nat} {acc : List Nat} (h : runesAt l pos acc) (hne : l.drop pos ≠ []) (hb : Nm.isBad (l.drop pos) = true) : Nm.runes l = none := by
  rw [h.2.2, Nm.runes_bad hne hb]; rfl
theorem runesAt_end {l : List UInt8} {pos : Nat} {acc : List Nat} (h : runesAt l pos acc) (hn : l.drop pos = []) : Nm.runes l = some acc := by
  rw [h.2.2, hn, Nm.runes_nil]; simp

/-- What the two tell. -/
def runesL (l : List UInt8) : List Nat := (Nm.runes l).getD []
def runesOk (l : List UInt8) : Bool := (Nm.runes l).isSome
theorem runesL_none {l : List UInt8} (h : Nm.runes l = none) : runesL l = [] ∧ runesOk l = false := by simp [runesL, runesOk, h]
theorem runesL_some {l : List UInt8} {acc : List Nat} (h : Nm.runes l = some acc) : runesL l = acc ∧ runesOk l = true := by simp [runesL, runesOk, h]
theorem ret_two {v : Value} {a b : Bool} (h : a = b) : Ending.returned (.tuple #[v, .bool a]) = .returned (.tuple #[v, .bool b]) := by rw [h]

theorem extract_size (s : ByteArray) (k : Nat) : (s.extract k s.size).size = s.size - k := by simp
theorem charL_drop {s : ByteArray} {pos : Nat} (hp : pos < s.size) (hb : Nm.isBad (s.data.toList.drop pos) = false) : Nm.charL (s.data.toList.drop pos) = Utf8.decode s pos := by
  rw [Nm.charL_good (drop_ne hp) hb, Lib.decodeL_drop]
/-- 'Char' of what stands from a place on. -/
theorem charAt_good {s : ByteArray} {pos : Nat} (hs : s.size ≤ 2000000) (hp : pos < s.size) (hb : Nm.isBad (s.data.toList.drop pos) = false) (w0 : World) :
    Calls Tryz.prog 191 #[.string (s.extract pos s.size)] w0 fun e w' => e = .returned (.tuple #[.int .i64 ((Utf8.decode s pos).1 : Nat), .int .i64 ((Utf8.decode s pos).2 : Nat)]) ∧ w' = w0 := by
  have h := char_any (s.extract pos s.size) w0 (by rw [extract_size s pos]; unfold maxLen; omega)
  have e1 : charV (s.extract pos s.size).data.toList = .tuple #[.int .i64 ((Utf8.decode s pos).1 : Nat), .int .i64 ((Utf8.decode s pos).2 : Nat)] := by
    rw [extract_high]
    simp only [charV]
    rw [charL_drop hp hb]
  rw [e1] at h
  exact h
theorem charAt_bad {s : ByteArray} {pos : Nat} (hs : s.size ≤ 2000000) (hp : pos < s.size) (hb : Nm.isBad (s.data.toList.drop pos) = true) (w0 : World) :
    Calls Tryz.prog 191 #[.string (s.extract pos s.size)] w0 fun e w' => e = .returned (.tuple #[.int .i64 0, .int .i64 0]) ∧ w' = w0 := by
  have h := char_any (s.extract pos s.size) w0 (by rw [extract_size s pos]; unfold maxLen; omega)
  have e1 : charV (s.extract pos s.size).data.toList = .tuple #[.int .i64 0, .int .i64 0] := by
    rw [extract_high]
    simp only [charV]
    rw [Nm.charL_bad hb]
    rfl
  rw [e1] at h
  exact h

set_option maxRecDepth 20000 in
set_option maxHeartbeats 2000000 in
theorem refRunes_any (s : ByteArray) (w : World) (hs : s.size ≤ 2000000) :
    Calls Tryz.prog 172 #[.string s] w fun e w' => ∃ v, e = .returned (.tuple #[v, .bool (runesOk s.data.toList)]) ∧ w'.ownsRow w.heap.size 3 1 v (runesL s.data.toList).length (cells64 (runesL s.data.toList)) ∧ Below w.heap.size w w' := by
  obtain ⟨i0, hi, hz0, hz1, hz2⟩ := info_parts info3
  go_enter Tryz.func172, Tryz.ntmps172
  go_wp2
  go_loopw [4, 5] (fun v i wr => ∃ (pos : Nat) (acc : List Nat), i = .int .i64 pos ∧ wr.ownsRow w.heap.size 3 1 v acc.length (cells64 acc) ∧ Below w.heap.size w wr ∧ runesAt s.data.toList pos acc) (fun _ i _ => s.size - (intOf i).toNat)
  case atStart => exact ⟨0, [], rfl, World.ownsRow_nil _ _ _ _, Below.refl _ w, runesAt_zero _⟩
  case round =>
    obtain ⟨pos, acc, rfl, hown, hbw, hR⟩ := hrel
    have hsz := hbw.size
    have hpl := hR.1
    rw [size_len] at hpl
    have hal := hR.2.1
    by_cases hp : pos < s.size
    · have HE : Hid (s.data.toList.drop pos ≠ []) := drop_ne hp
      have HD : Hid (Lib.decodeL (s.data.toList.drop pos) = Utf8.decode s pos) := Lib.decodeL_drop s pos
      have hd1 := decode_le s pos
      have hwd : 1 ≤ (Utf8.decode s pos).2 := by rw [← HD.out]; exact Lib.decodeL_width _
      have hwe : (Utf8.decode s pos).2 ≤ s.size - pos := by
        have h := Lib.decodeL_le _ HE.out
        rw [HD.out, List.length_drop, size_len] at h
        exact h
      by_cases hb : Nm.isBad (s.data.toList.drop pos) = true
      · have HL : Hid (runesL s.data.toList = [] ∧ runesOk s.data.toList = false) := by
          have h := runesL_none (runesAt_bad hR HE.out hb)
          exact h
        have HC := charAt_bad hs hp hb
        clear hb
        go_wp2_with (first | (go_at_call 191; refine (HC _).mono ?_; rintro e W1 ⟨rfl, rfl⟩) | go_in)
        go_ret2
        exact ⟨_, ret_two HL.out.2.symm, by rw [HL.out.1]; exact World.ownsRow_nil _ _ _ _, hbw⟩
      · have hb' : Nm.isBad (s.data.toList.drop pos) = false := by simpa using hb
        have HC := charAt_good hs hp hb'
        have HR : Hid (runesAt s.data.toList (pos + (Utf8.decode s pos).2) (acc ++ [(Utf8.decode s pos).1])) := by
          have h := runesAt_step hR HE.out hb'
          rw [HD.out] at h
          exact h
        clear hb hb' HD
        generalize (Utf8.decode s pos).1 = c at *
        generalize (Utf8.decode s pos).2 = d at *
        go_wp2_with (first
          | (go_at_call 191; refine (HC _).mono ?_; rintro e W1 ⟨rfl, rfl⟩)
          | (at_builtin; refine wpList_append_own _ rfl _ _ 199 rfl w.heap.size 3 i0 (.int .i64 0) 1 8 Tryz.underlying199 hi hz0 hz1 hz2 rfl (by decide) _ _ _ rfl (hown.alloc _) ⟨_, 0, none⟩ 1 1 [.int .i64 (c : Int)] rfl rfl (one_new5 _ _ _) (one_cell64 _) ?c3 ?c4 ?c5 ?_)
          | go_in)
        case c3 => unfold maxLen; omega
        case c4 => omega
        case c5 => simp; omega
        intro v' w1 hown' hgrow _
        have R1 := own_below hown hsz hbw hgrow
        rw [cells64_snoc] at hown'
        clear hgrow hown
        go_wp2
        go_roundw
        case rel => exact ⟨pos + d, acc ++ [c], by go_num, by simpa using hown', R1, HR.out⟩
        case measure => simp [intOf]; omega
    · have HL : Hid (runesL s.data.toList = acc ∧ runesOk s.data.toList = true) := by
        have h := runesL_some (runesAt_end hR (drop_nil hp))
        exact h
      go_wp2
      go_ret2
      exact ⟨_, ret_two HL.out.2.symm, by rw [HL.out.1]; exact hown, hbw⟩

end Go.Proofs.YthlhopdlkkeohaaGreatDoor.U
/- The walks of the two 'Right' and the two 'Clean'. -/
namespace Go.Proofs.YthlhopdlkkeohaaGreatDoor.U
open Go.RowKit

theorem runesF_le (n : Nat) : ∀ (l : List UInt8) (rs : List Nat), Nm.runesF n l = some rs → ∀ c ∈ rs, c ≤ 1114111 := by
  induction n with
  | zero =>
    intro l rs h
    simp [Nm.runesF] at h
    subst h
    simp
  | succ n ih =>
    intro l rs h
    by_cases hne : l = []
    · subst hne
      rw [Nm.runesF_nil] at h
      cases h
      simp
    · rw [Nm.runesF, if_neg hne] at h
      by_cases hb : Nm.isBad l = true
      · rw [if_pos hb] at h
        cases h
      · rw [if_neg hb] at h
        obtain ⟨r, hr, rfl⟩ := Option.map_eq_some_iff.1 h
        intro c hc
        rcases List.mem_cons.1 hc with rfl | hc
        · exact Lib.decodeL_rune l
        · exact ih _ r hr c hc
theorem runesL_le (l : List UInt8) (k : Nat) (h : k < (runesL l).length) : (runesL l)[k] ≤ 1114111 := by
  cases hr : Nm.runes l with
  | none =>
    have := (runesL_none hr).1
    rw [this] at h
    simp at h
  | some rs =>
    have e := (runesL_some hr).1
    have h2 := runesF_le _ l rs hr
    subst e
    exact h2 _ (List.getElem_mem h)
/-- What lies at a place of the call's own memory. -/
theorem own_slice {w : World} {B : Nat} {e : TypeId} {v : Value} {n : Nat} {xs : List Value} (h : w.ownsRow B e 1 v n xs) : ∃ ao cap, v = .slice ao n cap := by
  rcases h.2 with ⟨hv, h0⟩ | ⟨g, cap, cur, hv, _⟩
  · exact ⟨none, 0, by rw [hv, h0]⟩
  · exact ⟨_, _, hv⟩
theorem own_cell {w : World} {B : Nat} {e : TypeId} {ao : Option Addr} {n m cap k : Nat} {xs : List Value} {x : Value} (h : w.ownsRow B e 1 (.slice ao n cap) m xs) (hx : xs[k]? = some x) : ∃ g, ao = some ⟨g, 0, none⟩ ∧ w.cell? ⟨g, k, none⟩ = some x := by
  rcases h.2 with ⟨_, h0⟩ | ⟨g, cap', cur, hv, _⟩
  · have := h.1
    rw [h0] at this
    have h1 : xs = [] := List.eq_nil_of_length_eq_zero (by omega)
    rw [h1] at hx
    simp at hx
  · injection hv with e1 _ _
    subst e1
    refine ⟨g, rfl, ?_⟩
    have := h.cells rfl k x hx
    have hadd : (⟨g, 0, none⟩ : Addr).add k = ⟨g, k, none⟩ := by unfold Addr.add; split <;> simp_all
    rw [hadd] at this
    exact this
theorem cells64_at {l : List Nat} {k : Nat} (h : k < l.length) : (cells64 l)[k]? = some (.int .i64 (l[k] : Int)) := by simp [cells64, List.getElem?_eq_getElem h]
theorem cells32_at {l : List Nat} {k : Nat} (h : k < l.length) : (cells32 l)[k]? = some (.int .i32 (l[k] : Int)) := by simp [cells32, List.getElem?_eq_getElem h]
/-- Of the characters so many, from the first on, may stand in a name. -/
def mayTo (rs : List Nat) (k : Nat) : Prop := ∀ c ∈ rs.take k, Nm.may c = true
theorem mayTo_zero (rs : List Nat) : mayTo rs 0 := by intro c hc; simp at hc
theorem mayTo_step {rs : List Nat} {k : Nat} (h : mayTo rs k) (hk : k < rs.length) (hm : Nm.may rs[k] = true) : mayTo rs (k + 1) := by
  intro c hc
  rw [List.take_succ_eq_append_getElem hk] at hc
  rcases List.mem_append.1 hc with h1 | h1
  · exact h c h1
  · simp at h1
    subst h1
    exact hm
theorem isName_not {l : List UInt8} {k : Nat} (hk : k < (runesL l).length) (hm : Nm.may (runesL l)[k] = false) : Nm.isName l = false := by
  unfold Nm.isName
  cases hr : Nm.runes l with
  | none => rfl
  | some rs =>
    have e := (runesL_some hr).1
    have h1 : (rs.all Nm.may) = false := by
      rw [List.all_eq_false]
      subst e
      exact ⟨_, List.getElem_mem hk, by rw [hm]; simp⟩
    simp [h1]
theorem isName_all {l : List UInt8} {k : Nat} (hk : ¬ k < (runesL l).length) (hm : mayTo (runesL l) k) : Nm.isName l = (runesOk l && decide (1 ≤ (runesL l).length) && decide ((runesL l).length ≤ 24)) := by
  unfold Nm.isName
  cases hr : Nm.runes l with
  | none => simp [(runesL_none hr).2]
  | some rs =>
    obtain ⟨e1, e2⟩ := runesL_some hr
    rw [e2, e1]
    rw [e1] at hk hm
    have h1 : (rs.all Nm.may) = true := by
      rw [List.all_eq_true]
      intro c hc
      exact hm c (by rw [List.take_of_length_le (by omega)]; exact hc)
    simp [h1]

theorem runesF_len (n : Nat) : ∀ (l : List UInt8) (rs : List Nat), Nm.runesF n l = some rs → rs.length ≤ n := by
  induction n with
  | zero =>
    intro l rs h
    simp [Nm.runesF] at h
    subst h
    simp
  | succ n ih =>
    intro l rs h
    by_cases hne : l = []
    · subst hne
      rw [Nm.runesF_nil] at h
      cases h
      simp
    · rw [Nm.runesF, if_neg hne] at h
      by_cases hb : Nm.isBad l = true
      · rw [if_pos hb] at h
        cases h
      · rw [if_neg hb] at h
        obtain ⟨r, hr, rfl⟩ := Option.map_eq_some_iff.1 h
        have := ih _ r hr
        simp
        omega
theorem runesL_len (s : ByteArray) : (runesL s.data.toList).length ≤ s.size := by
  cases hr : Nm.runes s.data.toList with
  | none => rw [(runesL_none hr).1]; simp
  | some rs =>
    rw [(runesL_some hr).1, ← size_len]
    exact runesF_len _ _ rs hr

set_option maxRecDepth 20000 in
set_option maxHeartbeats 2000000 in
theorem refRight_any (s : ByteArray) (w : World) (hs : s.size ≤ 2000000) :
    Calls Tryz.prog 171 #[.string s] w fun e w' => e = .returned (.bool (Nm.right s.data.toList)) ∧ Below w.heap.size w w' := by
  have HN : Hid (Nm.right s.data.toList = Nm.isName s.data.toList) := Nm.right_isName _
  go_enter Tryz.func171, Tryz.ntmps171
  go_wp2_with (go_at_call 172; refine (refRunes_any s _ hs).mono ?_)
  rintro e W1 ⟨v, rfl, hown, hbw⟩
  have hle := runesL_le s.data.toList
  have hlen := runesL_len s
  have HX := @isName_not s.data.toList
  have HY := @isName_all s.data.toList
  generalize runesL s.data.toList = rs at *
  generalize runesOk s.data.toList = ok at *
  generalize Nm.isName s.data.toList = nm at *
  obtain ⟨ao, cap, rfl⟩ := own_slice hown
  have hrl : rs.length ≤ s.size := hlen
  go_wp2
  go_loop [5] (fun i => ∃ k : Nat, k ≤ rs.length ∧ i = .int .i64 k ∧ mayTo rs k) (fun i => rs.length - (intOf i).toNat)
  case atStart => exact ⟨0, by omega, rfl, mayTo_zero _⟩
  case round =>
    obtain ⟨k, hk, rfl, hm⟩ := hrel
    by_cases hlt : k < rs.length
    · obtain ⟨g, rfl, hcell⟩ := own_cell hown (cells64_at hlt)
      have hb := hle k hlt
      have HM := may_any rs[k]
      cases hmk : Nm.may rs[k] with
      | false =>
        rw [hmk] at HM
        have HL : Hid (Nm.right s.data.toList = false) := by
          have h := HN.out
          rw [HX hlt hmk] at h
          exact h
        clear HX HY HN
        generalize rs[k] = c at *
        go_wp2_with (first | (go_at_call 190; refine (HM _ (by omega)).mono ?_; rintro e W2 ⟨rfl, rfl⟩) | go_in)
        go_ret
        exact ⟨ret_bool HL.out.symm, hbw⟩
      | true =>
        rw [hmk] at HM
        have HS := mayTo_step hm hlt hmk
        clear HX HY HN
        generalize rs[k] = c at *
        go_wp2_with (first | (go_at_call 190; refine (HM _ (by omega)).mono ?_; rintro e W2 ⟨rfl, rfl⟩) | go_in)
        go_round
        case rel => exact ⟨k + 1, by omega, by go_num, HS⟩
        case measure => simp [intOf]; omega
    · have HL : Hid (Nm.right s.data.toList = (ok && decide (1 ≤ rs.length) && decide (rs.length ≤ 24))) := by
        have h := HN.out
        rw [HY hlt hm] at h
        exact h
      clear HX HY HN
      clear hle
      have hk' : k = rs.length := by omega
      cases ok with
      | false =>
        go_wp2
        go_ret
        exact ⟨ret_bool (by rw [HL.out]; rfl), hbw⟩
      | true =>
        by_cases h1 : rs.length = 0
        · rw [h1] at HL
          go_wp2
          go_ret
          exact ⟨ret_bool (by rw [HL.out]; rfl), hbw⟩
        · by_cases h2 : rs.length ≤ 24
          · have HL2 : Hid (Nm.right s.data.toList = true) := by
              have h := HL.out
              rw [decide_eq_true (by omega : 1 ≤ rs.length), decide_eq_true h2] at h
              exact h
            clear HL
            go_wp2
            go_ret
            exact ⟨ret_bool (by rw [HL2.out]; first | done | (simp; exact_mod_cast h2) | (simp; exact_mod_cast Nat.lt_of_not_le h2)), hbw⟩
          · have HL2 : Hid (Nm.right s.data.toList = false) := by
              have h := HL.out
              rw [decide_eq_true (by omega : 1 ≤ rs.length), decide_eq_false h2] at h
              exact h
            clear HL
            go_wp2
            go_ret
            exact ⟨ret_bool (by rw [HL2.out]; first | done | (simp; exact_mod_cast h2) | (simp; exact_mod_cast Nat.lt_of_not_le h2)), hbw⟩

/-! ### The two 'Clean' -/
/-- Where a walk stands: what was kept, how many characters, what is still to read. -/
def cleanAt (l : List UInt8) (pos k : Nat) (acc : List UInt8) : Prop := pos ≤ l.length ∧ k ≤ 24 ∧ acc.length ≤ pos ∧ (k = 0 ↔ acc = []) ∧ Nm.cgo 0 l = acc ++ Nm.cgo k (l.drop pos)
theorem cleanAt_zero (l : List UInt8) : cleanAt l 0 0 [] := ⟨by omega, by omega, by simp, by simp, by simp⟩
theorem ret_str {a b : ByteArray} (h : a = b) : Ending.returned (.string a) = .returned (.string b) := by rw [h]
theorem bytes_of {a : ByteArray} {l : List UInt8} (h : a.data.toList = l) : a = ⟨l.toArray⟩ := by
  subst h
  apply ByteArray.ext
  simp
theorem extract_list (s : ByteArray) (a b : Nat) : (s.extract a b).data.toList = (s.data.toList.drop a).take (b - a) := by
  simp [ByteArray.data_extract, Array.toList_extract, List.extract_eq_take_drop]

theorem slice_add (s : ByteArray) (a d : Nat) (h : a + d ≤ s.size) : ∀ wx, (Instr.slice 9 (.string s) (some (.int .i64 (a : Int))) (some (.int .i64 ((a : Int) + (d : Int)))) none).run Tryz.prog wx = .ok (.string (s.extract a (a + d))) wx := by
  intro wx
  have h1 := run_slice_string (P := Tryz.prog) wx 9 s .i64 .i64 (a : Int) ((a : Int) + (d : Int)) Tryz.underlying9 (by omega) (by omega) (by omega)
  rw [h1]
  congr 2

end Go.Proofs.YthlhopdlkkeohaaGreatDoor.U
/- The walk of name.isQuoted. -/
namespace Go.Proofs.YthlhopdlkkeohaaGreatDoor.U
open Go.RowKit

set_option maxRecDepth 20000 in
theorem isQuoted_any (c : Nat) (w : World) (hc : c ≤ 2147483647) :
    Calls Tryz.prog 127 #[.int .i32 c] w fun e w' => e = .returned (.bool (isQN c)) ∧ w' = w := by
  by_cases h1 : c = 47
  · subst h1
    go_enter Tryz.func127, Tryz.ntmps127
    go_wp2
    go_ret
    exact ⟨rfl, rfl⟩
  · by_cases h2 : c = 92
    · subst h2
      go_enter Tryz.func127, Tryz.ntmps127
      go_wp2
      go_ret
      exact ⟨rfl, rfl⟩
    · have HM : Hid (isQN c = false) := by
        have h : isQN c = false := by simp [isQN, h1, h2]
        exact h
      go_enter Tryz.func127, Tryz.ntmps127
      go_wp2
      go_ret
      exact ⟨ret_bool (by rw [HM.out]; first | done | (simp; omega)), rfl⟩


end Go.Proofs.YthlhopdlkkeohaaGreatDoor.U
