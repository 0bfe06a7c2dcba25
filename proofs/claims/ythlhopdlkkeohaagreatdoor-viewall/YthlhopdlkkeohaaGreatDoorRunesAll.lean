/- The walks of the two 'Runes': a text's characters, put behind one another in memory of the call's own · A value in memory; the walks of inside, holding, Fold, Unfold, and of the document's Fold · A region that draws its order, walked operation by operation: what yields in every world that meets the region's condition is taken first, whatever the order; a call by its contract. -/
import Derived.Test.YthlhopdlkkeohaaGreatDoorCompDAll
import Derived.Test.YthlhopdlkkeohaaGreatDoorChars
import Derived.Test.YthlhopdlkkeohaaGreatDoorPlainAll
import Derived.Test.YthlhopdlkkeohaaGreatDoorOpsAll
/- The walks of the two 'Runes': a text's characters, put behind one another in memory of the call's own. -/
namespace Go.Proofs.YthlhopdlkkeohaaGreatDoor.U
open Go.RowKit

/-! ### Memory of the call's own, beside a range's iterator -/
/-- One element more: what lay below stands, and so does the iterator. -/
theorem own_below {w wr w1 : World} {B : Nat} {e : TypeId} {v : Value} {n : Nat} {xs : List Value} {o : Obj} (hown : wr.ownsRow B e 1 v n xs) (hB : B ≤ wr.heap.size) (hbw : Below B w wr) (hgrow : (wr.alloc o).grownBy w1 v.ownBlock) : Below B w w1 :=
  (hbw.alloc hB o).grown hgrow (by simp; omega) (fun k hk => (hown.lt k hk).1)
/-- Characters as cells. -/
def cells32 (l : List Nat) : List Value := l.map fun c : Nat => .int .i32 (c : Int)
def cells64 (l : List Nat) : List Value := l.map fun c : Nat => .int .i64 (c : Int)
theorem cells32_snoc (l : List Nat) (c : Nat) : cells32 l ++ [.int .i32 (c : Int)] = cells32 (l ++ [c]) := by simp [cells32]
theorem cells64_snoc (l : List Nat) (c : Nat) : cells64 l ++ [.int .i64 (c : Int)] = cells64 (l ++ [c]) := by simp [cells64]
theorem cells32_ff (l : List Nat) : cells32 l ++ [.int .i32 65533] = cells32 (l ++ [65533]) := by simp [cells32]
theorem cells32_length (l : List Nat) : (cells32 l).length = l.length := by simp [cells32]
theorem cells64_length (l : List Nat) : (cells64 l).length = l.length := by simp [cells64]
theorem info21 : (Tryz.prog.info? 21).map (fun i => (i.zero, i.size, i.bytes)) = some (some (.int .i32 0), 1, 4) := by kernel_rfl
theorem info3 : (Tryz.prog.info? 3).map (fun i => (i.zero, i.size, i.bytes)) = some (some (.int .i64 0), 1, 8) := by kernel_rfl
theorem info9 : (Tryz.prog.info? 9).map (fun i => (i.zero, i.size, i.bytes)) = some (some (.string ⟨#[]⟩), 1, 16) := by kernel_rfl
theorem one_cell32 (n : Int) : ∀ u ∈ [Value.int .i32 n], u.oneCell' = true := by intro u hu; simp at hu; subst hu; rfl
theorem one_cell64 (n : Int) : ∀ u ∈ [Value.int .i64 n], u.oneCell' = true := by intro u hu; simp at hu; subst hu; rfl
theorem one_cellS (s : ByteArray) : ∀ u ∈ [Value.string s], u.oneCell' = true := by intro u hu; simp at hu; subst hu; rfl

theorem extract_high (s : ByteArray) (k : Nat) : s.extract k s.size = ⟨(s.data.toList.drop k).toArray⟩ := by
  apply ByteArray.ext
  apply Array.toList_inj.1
  simp only [ByteArray.data_extract, Array.toList_extract, List.extract_eq_take_drop]
  exact List.take_of_length_le (by simp)
theorem drop_ne {s : ByteArray} {pos : Nat} (h : pos < s.size) : s.data.toList.drop pos ≠ [] := by
  intro e
  have := congrArg List.length e
  rw [List.length_drop, size_len] at this
  simp at this
  omega
theorem drop_nil {s : ByteArray} {pos : Nat} (h : ¬ pos < s.size) : s.data.toList.drop pos = [] := List.drop_eq_nil_of_le (by rw [size_len]; omega)

/-- Where a walk through the characters stands: those that were told, what is still to read. -/
def runesAt (l : List UInt8) (pos : Nat) (acc : List Nat) : Prop := pos ≤ l.length ∧ acc.length ≤ pos ∧ Nm.runes l = (Nm.runes (l.drop pos)).map (acc ++ ·)
theorem runesAt_zero (l : List UInt8) : runesAt l 0 [] := ⟨by omega, by simp, by simp⟩
theorem runesAt_step {l : List UInt8} {pos : Nat} {acc : List Nat} (h : runesAt l pos acc) (hne : l.drop pos ≠ []) (hb : Nm.isBad (l.drop pos) = false) :
    runesAt l (pos + (Lib.decodeL (l.drop pos)).2) (acc ++ [(Lib.decodeL (l.drop pos)).1]) := by
  have h1 := Lib.decodeL_le _ hne
  have h2 := Lib.decodeL_width (l.drop pos)
  rw [List.length_drop] at h1
  refine ⟨by have := h.1; omega, by have := h.2.1; simp; omega, ?_⟩
  rw [h.2.2, Nm.runes_step hne hb, Nm.drop_rest]
  cases Nm.runes (l.drop (pos + (Lib.decodeL (l.drop pos)).2)) <;> simp
theorem runesAt_bad {l : List UInt8} {pos : Nat} {acc : List Nat} (h : runesAt l pos acc) (hne : l.drop pos ≠ []) (hb : Nm.isBad (l.drop pos) = true) : Nm.runes l = none := by
  rw [h.2.2, Nm.runes_bad hne hb]; rfl
theorem runesAt_end {l : List UInt8} {pos : Nat} {acc : List Nat} (h : runesAt l pos acc) (hn : l.drop pos = []) : Nm.runes l = some acc := by
  rw [h.2.2, hn, Nm.runes_nil]; simp

/-- What the two tell. -/
def runesL (l : List UInt8) : List Nat := (Nm.runes l).getD []
def runesOk (l : List UInt8) : Bool := (Nm.runes l).isSome
theorem runesL_none {l : List UInt8} (h : Nm.runes l = none) : runesL l = [] ∧ runesOk l = false := by simp [runesL, runesOk, h]
theorem runesL_some {l : List UInt8} {acc : List Nat} (h : Nm.runes l = some acc) : runesL l = acc ∧ runesOk l = true := by simp [runesL, runesOk, h]
theorem ret_two {v : Value} {a b : Bool} (h : a = b) : Ending.returned (.tuple #[v, .bool a]) = .returned (.tuple #[v, .bool b]) := by rw [h]

theorem extract_size (s : ByteArray) (k : Nat) : (s.extract k s.size).size = s.size - k := by simp
theorem charL_drop {s : ByteArray} {pos : Nat} (hp : pos < s.size) (hb : Nm.isBad (s.data.toList.drop pos) = false) : Nm.charL (s.data.toList.drop pos) = Utf8.decode s pos := by
  rw [Nm.charL_good (drop_ne hp) hb, Lib.decodeL_drop]
/-- 'Char' of what stands from a place on. -/
theorem charAt_good {s : ByteArray} {pos : Nat} (hs : s.size ≤ 2000000) (hp : pos < s.size) (hb : Nm.isBad (s.data.toList.drop pos) = false) (w0 : World) :
    Calls Tryz.prog 191 #[.string (s.extract pos s.size)] w0 fun e w' => e = .returned (.tuple #[.int .i64 ((Utf8.decode s pos).1 : Nat), .int .i64 ((Utf8.decode s pos).2 : Nat)]) ∧ w' = w0 := by
  have h := char_any (s.extract pos s.size) w0 (by rw [extract_size s pos]; unfold maxLen; omega)
  have e1 : charV (s.extract pos s.size).data.toList = .tuple #[.int .i64 ((Utf8.decode s pos).1 : Nat), .int .i64 ((Utf8.decode s pos).2 : Nat)] := by
    rw [extract_high]
    simp only [charV]
    rw [charL_drop hp hb]
  rw [e1] at h
  exact h
theorem charAt_bad {s : ByteArray} {pos : Nat} (hs : s.size ≤ 2000000) (hp : pos < s.size) (hb : Nm.isBad (s.data.toList.drop pos) = true) (w0 : World) :
    Calls Tryz.prog 191 #[.string (s.extract pos s.size)] w0 fun e w' => e = .returned (.tuple #[.int .i64 0, .int .i64 0]) ∧ w' = w0 := by
  have h := char_any (s.extract pos s.size) w0 (by rw [extract_size s pos]; unfold maxLen; omega)
  have e1 : charV (s.extract pos s.size).data.toList = .tuple #[.int .i64 0, .int .i64 0] := by
    rw [extract_high]
    simp only [charV]
    rw [Nm.charL_bad hb]
    rfl
  rw [e1] at h
  exact h

set_option maxRecDepth 20000 in
set_option maxHeartbeats 2000000 in
theorem refRunes_any (s : ByteArray) (w : World) (hs : s.size ≤ 2000000) :
    Calls Tryz.prog 172 #[.string s] w fun e w' => ∃ v, e = .returned (.tuple #[v, .bool (runesOk s.data.toList)]) ∧ w'.ownsRow w.heap.size 3 1 v (runesL s.data.toList).length (cells64 (runesL s.data.toList)) ∧ Below w.heap.size w w' := by
  obtain ⟨i0, hi, hz0, hz1, hz2⟩ := info_parts info3
  go_enter Tryz.func172, Tryz.ntmps172
  go_wp2
  go_loopw [4, 5] (fun v i wr => ∃ (pos : Nat) (acc : List Nat), i = .int .i64 pos ∧ wr.ownsRow w.heap.size 3 1 v acc.length (cells64 acc) ∧ Below w.heap.size w wr ∧ runesAt s.data.toList pos acc) (fun _ i _ => s.size - (intOf i).toNat)
  case atStart => exact ⟨0, [], rfl, World.ownsRow_nil _ _ _ _, Below.refl _ w, runesAt_zero _⟩
  case round =>
    obtain ⟨pos, acc, rfl, hown, hbw, hR⟩ := hrel
    have hsz := hbw.size
    have hpl := hR.1
    rw [size_len] at hpl
    have hal := hR.2.1
    by_cases hp : pos < s.size
    · have HE : Hid (s.data.toList.drop pos ≠ []) := drop_ne hp
      have HD : Hid (Lib.decodeL (s.data.toList.drop pos) = Utf8.decode s pos) := Lib.decodeL_drop s pos
      have hd1 := decode_le s pos
      have hwd : 1 ≤ (Utf8.decode s pos).2 := by rw [← HD.out]; exact Lib.decodeL_width _
      have hwe : (Utf8.decode s pos).2 ≤ s.size - pos := by
        have h := Lib.decodeL_le _ HE.out
        rw [HD.out, List.length_drop, size_len] at h
        exact h
      by_cases hb : Nm.isBad (s.data.toList.drop pos) = true
      · have HL : Hid (runesL s.data.toList = [] ∧ runesOk s.data.toList = false) := by
          have h := runesL_none (runesAt_bad hR HE.out hb)
          exact h
        have HC := charAt_bad hs hp hb
        clear hb
        go_wp2_with (first | (go_at_call 191; refine (HC _).mono ?_; rintro e W1 ⟨rfl, rfl⟩) | go_in)
        go_ret2
        exact ⟨_, ret_two HL.out.2.symm, by rw [HL.out.1]; exact World.ownsRow_nil _ _ _ _, hbw⟩
      · have hb' : Nm.isBad (s.data.toList.drop pos) = false := by simpa using hb
        have HC := charAt_good hs hp hb'
        have HR : Hid (runesAt s.data.toList (pos + (Utf8.decode s pos).2) (acc ++ [(Utf8.decode s pos).1])) := by
          have h := runesAt_step hR HE.out hb'
          rw [HD.out] at h
          exact h
        clear hb hb' HD
        generalize (Utf8.decode s pos).1 = c at *
        generalize (Utf8.decode s pos).2 = d at *
        go_wp2_with (first
          | (go_at_call 191; refine (HC _).mono ?_; rintro e W1 ⟨rfl, rfl⟩)
          | (at_builtin; refine wpList_append_own _ rfl _ _ 199 rfl w.heap.size 3 i0 (.int .i64 0) 1 8 Tryz.underlying199 hi hz0 hz1 hz2 rfl (by decide) _ _ _ rfl (hown.alloc _) ⟨_, 0, none⟩ 1 1 [.int .i64 (c : Int)] rfl rfl (one_new5 _ _ _) (one_cell64 _) ?c3 ?c4 ?c5 ?_)
          | go_in)
        case c3 => unfold maxLen; omega
        case c4 => omega
        case c5 => simp; omega
        intro v' w1 hown' hgrow _
        have R1 := own_below hown hsz hbw hgrow
        rw [cells64_snoc] at hown'
        clear hgrow hown
        go_wp2
        go_roundw
        case rel => exact ⟨pos + d, acc ++ [c], by go_num, by simpa using hown', R1, HR.out⟩
        case measure => simp [intOf]; omega
    · have HL : Hid (runesL s.data.toList = acc ∧ runesOk s.data.toList = true) := by
        have h := runesL_some (runesAt_end hR (drop_nil hp))
        exact h
      go_wp2
      go_ret2
      exact ⟨_, ret_two HL.out.2.symm, by rw [HL.out.1]; exact hown, hbw⟩

end Go.Proofs.YthlhopdlkkeohaaGreatDoor.U
/- A value in memory; the walks of inside, holding, Fold, Unfold, and of the document's Fold. -/
namespace Go.Proofs.YthlhopdlkkeohaaGreatDoor
open Go.RowKit

/-- A value. -/
abbrev valV (k n : Int) (l : List UInt8) : Value := .agg #[.int .i64 k, .int .i64 n, .string ⟨l.toArray⟩]
abbrev valO (k n : Int) (l : List UInt8) : Obj := .cells #[.int .i64 k, .int .i64 n, .string ⟨l.toArray⟩] 61
/-- What is in a value. -/
def inV : Vl.In → Value
  | .int n => .iface 3 (.int .i64 n)
  | .str l => .iface 9 (.string ⟨l.toArray⟩)
  | .bool b => .iface 4 (.bool b)

theorem as3_3 (W : World) (v : Value) : (Instr.typeAssert (.iface 3 v) 20 3 true).run Tryz.prog W = .ok (.tuple #[v, .bool true]) W := by kernel_rfl
theorem as3_9 (W : World) (v : Value) : (Instr.typeAssert (.iface 3 v) 20 9 true).run Tryz.prog W = .ok (.tuple #[.string ⟨#[]⟩, .bool false]) W := by kernel_rfl
theorem as9_3 (W : World) (v : Value) : (Instr.typeAssert (.iface 9 v) 20 3 true).run Tryz.prog W = .ok (.tuple #[.int .i64 0, .bool false]) W := by kernel_rfl
theorem as9_9 (W : World) (v : Value) : (Instr.typeAssert (.iface 9 v) 20 9 true).run Tryz.prog W = .ok (.tuple #[v, .bool true]) W := by kernel_rfl
theorem as4_3 (W : World) (v : Value) : (Instr.typeAssert (.iface 4 v) 20 3 true).run Tryz.prog W = .ok (.tuple #[.int .i64 0, .bool false]) W := by kernel_rfl
theorem as4_9 (W : World) (v : Value) : (Instr.typeAssert (.iface 4 v) 20 9 true).run Tryz.prog W = .ok (.tuple #[.string ⟨#[]⟩, .bool false]) W := by kernel_rfl
theorem as4_4 (W : World) (v : Value) : (Instr.typeAssert (.iface 4 v) 20 4 false).run Tryz.prog W = .ok v W := by kernel_rfl

/-- A value in a variable. -/
structure VAt (w : World) (b : Nat) (k n : Int) (l : List UInt8) : Prop where
  c0 : w.cell? ⟨b, 0, none⟩ = some (.int .i64 k)
  c1 : w.cell? ⟨b, 1, none⟩ = some (.int .i64 n)
  c2 : w.cell? ⟨b, 2, none⟩ = some (.string ⟨l.toArray⟩)
  f0 : w.frozen? ⟨b, 0, none⟩ = false
  f1 : w.frozen? ⟨b, 1, none⟩ = false
  f2 : w.frozen? ⟨b, 2, none⟩ = false
theorem VAt.new (w : World) (k n : Int) (l : List UInt8) : VAt (w.alloc (valO k n l)) w.heap.size k n l := ⟨by simp, by simp, by simp, by simp, by simp, by simp⟩
theorem VAt.lt {w : World} {b : Nat} {k n : Int} {l : List UInt8} (h : VAt w b k n l) : b < w.heap.size := World.block_lt_of_cell? w ⟨b, 0, none⟩ h.c0
theorem VAt.blk {w w' : World} {b : Nat} {k n : Int} {l : List UInt8} (h : VAt w b k n l) (hb : w'.heap[b]? = w.heap[b]?) : VAt w' b k n l :=
  ⟨(World.cell?_of_block (w := w) hb).trans h.c0, (World.cell?_of_block (w := w) hb).trans h.c1, (World.cell?_of_block (w := w) hb).trans h.c2, (World.frozen?_of_block (w := w) hb).trans h.f0, (World.frozen?_of_block (w := w) hb).trans h.f1, (World.frozen?_of_block (w := w) hb).trans h.f2⟩
theorem VAt.on {w w' : World} {b : Nat} {k n : Int} {l : List UInt8} (h : VAt w b k n l) (hb : Below w.heap.size w w') : VAt w' b k n l := h.blk (hb.block b h.lt)
theorem VAt.but {w w' : World} {b g : Nat} {k n : Int} {l : List UInt8} (h : VAt w b k n l) (hb : But g w w') (hg : b ≠ g) : VAt w' b k n l := h.blk (hb.block b h.lt hg)
theorem VAt.drew {w : World} {b : Nat} {k n : Int} {l : List UInt8} (h : VAt w b k n l) : VAt w.drew b k n l := h.blk rfl
theorem VAt.setOther {w : World} {b : Nat} {k n : Int} {l : List UInt8} (h : VAt w b k n l) {p : Addr} (hp : p.block ≠ b) (v : Value) : VAt (w.setCell p v) b k n l := h.blk (Below.heap_setCell w p v b (Ne.symm hp))
theorem cell_frozen {w : World} {p q : Addr} {v : Value} : (w.setCell p v).frozen? q = w.frozen? q := by simp
theorem VAt.set {w : World} {b : Nat} {k n : Int} {l : List UInt8} (h : VAt w b k n l) (k' n' : Int) (l' : List UInt8) : VAt (((w.setCell ⟨b, 0, none⟩ (.int .i64 k')).setCell ⟨b, 1, none⟩ (.int .i64 n')).setCell ⟨b, 2, none⟩ (.string ⟨l'.toArray⟩)) b k' n' l' := by
  refine ⟨?_, ?_, ?_, by simp [h.f0], by simp [h.f1], by simp [h.f2]⟩
  · exact (World.cell?_setCell_other _ _ _ _ (by simp)).trans ((World.cell?_setCell_other _ _ _ _ (by simp)).trans (World.cell?_setCell_same _ _ _ h.c0))
  · exact (World.cell?_setCell_other _ _ _ _ (by simp)).trans (World.cell?_setCell_same _ _ _ ((World.cell?_setCell_other _ _ _ _ (by simp)).trans h.c1))
  · exact World.cell?_setCell_same _ _ _ ((World.cell?_setCell_other _ _ _ _ (by simp)).trans ((World.cell?_setCell_other _ _ _ _ (by simp)).trans h.c2))
end Go.Proofs.YthlhopdlkkeohaaGreatDoor
/- A region that draws its order, walked operation by operation: what yields in every world that meets the region's condition is taken first, whatever the order; a call by its contract. -/
namespace Go.Proofs.YthlhopdlkkeohaaGreatDoor
open Go.RowKit

section
variable {P : Program} {md : Region.Mode} {ops : Array Oper} {Q : Exit → Act → World → Prop} {S : World → Prop} {i : Nat} {o : Oper} {v : Value} {fuel : Nat} {listed : Array Bool} {a : Act} {w : World}

theorem held_take (ho : ops[i]? = some o) (hs : Region.noSelect ops = true) (hf : Region.free md ops listed i = true) (hr : (Region.ready md ops listed).contains i = true)
    (hQ : ∀ c a w, Q (.panic c) (a.put o.dst v) w → Q (.panic c) a w) (hw : Region.wanted o (yielded ops a.tmps) = true) (he : ∀ w, S w → (execOp a.eval o).run P w = .ok (.value v) w) (hS : S w)
    (h : wpAnyH P md ops Q S fuel (listed.setIfInBounds i true) (a.put o.dst v) w) : wpAnyH P md ops Q S (fuel + 1) listed a w :=
  wpAnyH_take ho hs hf hr hQ (Or.inl ⟨hw, he⟩) hS h
theorem held_skip (ho : ops[i]? = some o) (hs : Region.noSelect ops = true) (hf : Region.free md ops listed i = true) (hr : (Region.ready md ops listed).contains i = true)
    (hQ : ∀ c a w, Q (.panic c) (a.put o.dst undef) w → Q (.panic c) a w) (hw : Region.wanted o (yielded ops a.tmps) = false) (hS : S w)
    (h : wpAnyH P md ops Q S fuel (listed.setIfInBounds i true) (a.put o.dst undef) w) : wpAnyH P md ops Q S (fuel + 1) listed a w :=
  wpAnyH_take ho hs hf hr hQ (Or.inr ⟨hw, rfl⟩) hS h
theorem held_do (ho : ops[i]? = some o) (hr : Region.ready md ops listed = [i]) (hw : Region.wanted o (yielded ops a.tmps) = true) (he : (execOp a.eval o).run P w = .ok (.value v) w) (hS : S w)
    (h : wpAnyH P md ops Q S fuel (listed.setIfInBounds i true) (a.put o.dst v) w) : wpAnyH P md ops Q S (fuel + 1) listed a w :=
  wpAnyH_ready hr (by simp) (AllReadyH.cons ho (fun K hK => by
    rw [if_pos hw, Oper.wp, he]
    exact hK.out _ _ hS (fun _ => h)) AllReadyH.nil)
theorem exec_bin {op : BinOp} {t t' : TypeId} {x y : Operand} {X Y V : Value} (ho : o.op = .binOp op t x y t') (hx : a.eval x = X) (hy : a.eval y = Y) (hg : ∀ w, (eqGuard op t x y X Y).run P w = .ok () w) (hb : ∀ w, (binOp op t X Y).run P w = .ok V w) (w : World) :
    (execOp a.eval o).run P w = .ok (.value V) w := by
  unfold execOp
  simp only [ho, hx, hy, Sem.run_bind, hg, hb, Result.andThen_ok, Sem.run_pure]
theorem exec_un {op : UnOp} {t : TypeId} {x : Operand} {X V : Value} (ho : o.op = .unOp op t x) (hx : a.eval x = X) (hb : ∀ w, (Op.unary op X).run P w = .ok V w) (w : World) :
    (execOp a.eval o).run P w = .ok (.value V) w := by
  unfold execOp
  simp only [ho, hx, Sem.run_bind, hb, Result.andThen_ok, Sem.run_pure]
end
section
variable {P : Program} {md : Region.Mode} {ops : Array Oper} {Q : Exit → Act → World → Prop} {S : World → Prop} {i j : Nat} {o o' : Oper} {v v' : Value} {fuel : Nat} {listed : Array Bool} {a : Act} {w : World}
/-- A call, whatever it hands back. -/
theorem held_callX {F : FuncId} {vs : Array Value} {R : Ending → World → Prop} (ho : ops[i]? = some o) (hr : Region.ready md ops listed = [i]) (hw : Region.wanted o (yielded ops a.tmps) = true)
    (he : ∀ w, (execOp a.eval o).run P w = .ok (.enter F vs) w) (hc : Calls P F vs w R) (h : ∀ e w', R e w' → ∃ v, e = .returned v ∧ S w' ∧ wpAnyH P md ops Q S fuel (listed.setIfInBounds i true) (a.put o.dst v) w') :
    wpAnyH P md ops Q S (fuel + 1) listed a w :=
  wpAnyH_ready hr (by simp) (AllReadyH.cons ho (fun K hK => by
    rw [if_pos hw, Oper.wp, he]
    refine hc.mono ?_
    intro e w' hR
    obtain ⟨v, rfl, hs, hk⟩ := h e w' hR
    exact hK.out _ _ hs (fun _ => hk)) AllReadyH.nil)
end
section
variable {o : Oper} {a : Act} {w : World}
end
theorem eqb_same (x : Bool) (w : World) : (binOp .eql 4 (.bool x) (.bool x)).run Tryz.prog w = .ok (.bool true) w := by go_simp
theorem eqi_same (x : Int) (w : World) : (binOp .eql 3 (.int .i64 x) (.int .i64 x)).run Tryz.prog w = .ok (.bool true) w := by go_simp
theorem eqs_same (x : ByteArray) (w : World) : (binOp .eql 9 (.string x) (.string x)).run Tryz.prog w = .ok (.bool true) w := by go_simp
theorem not_of (x : Bool) (w : World) : (Op.unary .not (.bool x)).run Tryz.prog w = .ok (.bool (!x)) w := by go_simp
theorem neqb_same (x : Bool) (w : World) : (binOp .neq 4 (.bool x) (.bool x)).run Tryz.prog w = .ok (.bool false) w := by go_simp
theorem neqi_same (x : Int) (w : World) : (binOp .neq 3 (.int .i64 x) (.int .i64 x)).run Tryz.prog w = .ok (.bool false) w := by go_simp
theorem bytes_inj {a b : List UInt8} : ((⟨a.toArray⟩ : ByteArray) = ⟨b.toArray⟩) ↔ a = b := by
  constructor
  · intro h; have := congrArg (fun x : ByteArray => x.data.toList) h; simpa using this
  · rintro rfl; rfl
theorem eql_val (k n : Int) (l : List UInt8) (k' n' : Int) (l' : List UInt8) (w : World) : (binOp .eql 61 (valV k n l) (valV k' n' l')).run Tryz.prog w = .ok (.bool (decide (k = k' ∧ n = n' ∧ l = l'))) w := by
  go_simp
  by_cases h1 : k = k' <;> by_cases h2 : n = n' <;> by_cases h3 : l = l' <;> simp [h1, h2, h3]
theorem eqs_val (a b : List UInt8) (w : World) : (binOp .eql 9 (.string ⟨a.toArray⟩) (.string ⟨b.toArray⟩)).run Tryz.prog w = .ok (.bool (decide (a = b))) w := by
  go_simp
  rw [Bool.eq_iff_iff]; simp
end Go.Proofs.YthlhopdlkkeohaaGreatDoor
