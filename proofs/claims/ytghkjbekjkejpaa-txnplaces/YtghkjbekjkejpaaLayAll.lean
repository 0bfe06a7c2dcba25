/- The calls of the library that the program makes and that lie proved over any program: the builder's String: laid at this program · The walks of the builder's methods: copyCheck, WriteByte, WriteString, WriteRune, Reset: what each puts behind what the builder holds, and that nothing else is touched. -/
import Derived.Shelf.Strings.BuilderK
import Derived.Test.YtghkjbekjkejpaaChecked
import Derived.WalkKit
/- The calls of the library that the program makes and that lie proved over any program: the builder's String: laid at this program. -/
namespace Go.Proofs.Ytghkjbekjkejpaa
open Go.Shelf Go.RowKit

/-- Which number the library's functions, types and variables have here. -/
def ren : Ren := ⟨fun | 169 => 42 | n => n, fun | 0 => 0 | 3 => 3 | 5 => 5 | 9 => 9 | 37 => 57 | 70 => 56 | 72 => 59 | 127 => 88 | n => n, fun | n => n⟩
theorem lay169 : Lays.n169 Try.prog ren := {
  mixed := by kernel_rfl
  f169 := Try.func42.trans (congrArg some (by kernel_rfl))
  t0 := Try.underlying0, a0 := Try.isAgg0, z0 := Try.sizeOf0, v0 := Try.zeroValue0
  t3 := Try.underlying3, a3 := Try.isAgg3, z3 := Try.sizeOf3, v3 := Try.zeroValue3
  t9 := Try.underlying9, a9 := Try.isAgg9, z9 := Try.sizeOf9, v9 := Try.zeroValue9
  t37 := Try.underlying57, a37 := Try.isAgg57, z37 := Try.sizeOf57, v37 := Try.zeroValue57
  t70 := Try.underlying56, a70 := Try.isAgg56, z70 := Try.sizeOf56, v70 := Try.zeroValue56
  t72 := Try.underlying59, a72 := Try.isAgg59, z72 := Try.sizeOf59, v72 := Try.zeroValue59
  t127 := Try.underlying88, a127 := Try.isAgg88, z127 := Try.sizeOf88, v127 := Try.zeroValue88 }
theorem layX : Builder.Extra Try.prog ren := {
  sizeBuilder := by kernel_rfl
  liesBuilder := by kernel_rfl
  t5 := Try.underlying5, a5 := Try.isAgg5, z5 := Try.sizeOf5, v5 := Try.zeroValue5
  infoByte := by kernel_rfl
  cellsByte := by kernel_rfl
  sizeByte := by kernel_rfl
  neB5 := by decide }

/-- The builder tells its text. -/
theorem bString (B b : Nat) (l : List UInt8) (w : World) (h : Lib.IsBuilderF 59 5 B b (Lib.byteCells l) w) (hBw : B ≤ w.heap.size) :
    Calls Try.prog 42 #[.pointer (some ⟨b, 0, none⟩)] w fun e w' => e = .returned (.string ⟨l.toArray⟩) ∧ (Lib.IsBuilderF 59 5 B b (Lib.byteCells l) w' ∧ Below B w w' ∧ Lib.OthersKept 5 (some b) w w') := Any.Builder_String_any_k lay169 layX B b l w h hBw

end Go.Proofs.Ytghkjbekjkejpaa
/- The walks of the builder's methods: copyCheck, WriteByte, WriteString, WriteRune, Reset: what each puts behind what the builder holds, and that nothing else is touched. -/
namespace Go.Proofs.Ytghkjbekjkejpaa.U
open Go.RowKit

theorem info44 : (Try.prog.info? 59).map (·.size) = some 2 := by kernel_rfl
theorem lies44 : liesAt Try.prog Try.prog.depth 59 (2 / Try.prog.cellsOf 59) 0 59 1 = true := by kernel_rfl
theorem info5 : (Try.prog.info? 5).map (fun i => (i.zero, i.size, i.bytes)) = some (some (.int .u8 0), 1, 1) := by kernel_rfl
theorem heap_lt {w : World} {b : Nat} {o : Obj} (h : w.heap[b]? = some o) : b < w.heap.size := (Array.getElem?_eq_some_iff.1 h).1
theorem one_new5 (wr : World) (x : Value) (t : TypeId) : ∀ j u, [x][j]? = some u → (wr.alloc (.cells #[x] t)).cell? ((⟨wr.heap.size, 0, none⟩ : Addr).add j) = some u := by
  intro j u hj
  match j, hj with
  | 0, hj => simp at hj; subst hj; simp [Addr.add]
theorem one_cell5 (n : Int) : ∀ u ∈ [Value.int .u8 n], u.oneCell' = true := by intro u hu; simp at hu; subst hu; rfl

/-- The address at which a builder lies. -/
abbrev at0 (b : Nat) : Value := .pointer (some ⟨b, 0, none⟩)
/-- What a method leaves: the builder holds these bytes; what lay below stands; so does all that is neither the builder nor a row of bytes. -/
def Left (B b : Nat) (bs : List Value) (w w' : World) : Prop := Lib.IsBuilderF 59 5 B b bs w' ∧ Below B w w' ∧ Lib.OthersKept 5 (some b) w w'
/-- A builder's two cells. -/
theorem two_cells {w : World} {B b : Nat} {p : Value} {bs : List Value} (h : Lib.BuilderAtF 59 5 B b p bs w) :
    ∃ u, w.cell? ⟨b, 0, none⟩ = some p ∧ w.cell? ⟨b, 1, none⟩ = some u ∧ w.frozen? ⟨b, 0, none⟩ = false ∧ w.frozen? ⟨b, 1, none⟩ = false ∧ w.ownsRowF B 5 1 u bs.length bs := by
  obtain ⟨_, u, hb, hu, _⟩ := h
  exact ⟨u, by rw [Lib.cell_of_heap hb]; rfl, by rw [Lib.cell_of_heap hb]; rfl, Lib.frozen_of_heap hb 0, Lib.frozen_of_heap hb 1, hu⟩
theorem slice_form {w : World} {B : Nat} {v : Value} {n : Nat} {xs : List Value} (h : w.ownsRowF B 5 1 v n xs) : ∃ ao cap, v = .slice ao n cap := by
  rcases h.2 with ⟨rfl, rfl⟩ | ⟨g, cap, _, _, rfl, _⟩
  · exact ⟨none, 0, rfl⟩
  · exact ⟨_, cap, rfl⟩
/-- Bytes were put behind the builder's row, and the new row is stored: a builder with these bytes. -/
theorem stored {w w2 : World} {B b : Nat} {p u v' : Value} {bs bs' : List Value} (h : Lib.BuilderAtF 59 5 B b p bs w) (hu : w.cell? ⟨b, 1, none⟩ = some u) (hg : w.grownBy w2 u.ownBlock) (hown : w2.ownsRowF B 5 1 v' bs'.length bs') (hB : B ≤ w.heap.size) :
    w2.cell? ⟨b, 0, none⟩ = some p ∧ w2.cell? ⟨b, 1, none⟩ = some u ∧ w2.frozen? ⟨b, 1, none⟩ = false ∧ Lib.BuilderAtF 59 5 B b p bs' (w2.setCell ⟨b, 1, none⟩ v') ∧ Below B w (w2.setCell ⟨b, 1, none⟩ v') ∧ Lib.OthersKept 5 (some b) w (w2.setCell ⟨b, 1, none⟩ v') := by
  obtain ⟨hBb, x, hb, hx, hne⟩ := h
  obtain rfl : x = u := by
    rw [Lib.cell_of_heap hb] at hu
    exact Option.some.inj hu
  have hb2 : w2.heap[b]? = _ := (hg.block b (heap_lt hb) (fun e => hne e.symm)).trans hb
  refine ⟨by rw [Lib.cell_of_heap hb2]; rfl, by rw [Lib.cell_of_heap hb2]; rfl, Lib.frozen_of_heap hb2 1, Lib.BuilderAtF.put hBb hb2 hown (by decide), ?_, ?_⟩
  · exact ((Below.refl B w).grown hg hB (fun k hk => (hx.lt k hk).1)).setCell (p := ⟨b, 1, none⟩) hBb _
  · exact ((Lib.OthersKept.refl 5 (some b) w).grown hg (Lib.ownsRowF_kind hx)).setCell ⟨b, 1, none⟩ rfl _

set_option maxHeartbeats 2000000 in
set_option maxRecDepth 100000 in
theorem copyCheck_used (b : Nat) (w : World) (h0 : w.cell? ⟨b, 0, none⟩ = some (at0 b)) :
    Calls Try.prog 60 #[at0 b] w fun e w' => e = .returned (.tuple #[]) ∧ w' = w := by
  obtain ⟨j, hj, _⟩ := Option.map_eq_some_iff.1 info44
  go_enter Try.func60, Try.ntmps60
  go_wp2
  rw [Lib.run_neq_ptr_same w _ Try.underlying56 hj]
  go_wp2
  go_end0
  exact ⟨rfl, rfl⟩

set_option maxHeartbeats 2000000 in
set_option maxRecDepth 100000 in
theorem copyCheck_fresh (b : Nat) (w : World) (h0 : w.cell? ⟨b, 0, none⟩ = some (.pointer none)) (hsh : w.shape? b = some (59, 2)) (hfz : w.frozen? ⟨b, 0, none⟩ = false) :
    Calls Try.prog 60 #[at0 b] w fun e w' => e = .returned (.tuple #[]) ∧ w' = w.setCell ⟨b, 0, none⟩ (at0 b) := by
  obtain ⟨j, hj, hjs⟩ := Option.map_eq_some_iff.1 info44
  have hto := Lib.run_to_unsafe w ⟨b, 0, none⟩ Try.underlying56 Try.underlying98 hj (by rw [hjs]; decide) hsh (Nat.zero_lt_succ 1)
  have hno : (callFunc 82 #[at0 b]).run Try.prog w = .ok (.value (at0 b)) w := (run_callFunc_extern Try.func82 (by kernel_rfl) (by kernel_rfl) (by kernel_rfl) (e := Extern.AbiNoEscape.same) (by kernel_rfl) #[at0 b] w).trans rfl
  have hfrom := Lib.run_from_unsafe w ⟨b, 0, none⟩ Try.underlying98 Try.underlying56 hj hsh lies44
  go_enter Try.func60, Try.ntmps60
  go_wp2
  go_end0
  exact ⟨rfl, rfl⟩

theorem copyCheck_any (B b : Nat) (bs : List Value) (w : World) (h : Lib.IsBuilderF 59 5 B b bs w) :
    Calls Try.prog 60 #[at0 b] w fun e w' => e = .returned (.tuple #[]) ∧ Lib.BuilderAtF 59 5 B b (at0 b) bs w' ∧ Below B w w' ∧ Lib.OthersKept 5 (some b) w w' := by
  rcases h with h | h
  · refine (copyCheck_fresh b w h.cell0 h.shape h.frozen0).mono fun e w' ⟨he, hw⟩ => ?_
    subst hw
    exact ⟨he, h.used _, (Below.refl B w).setCell (p := ⟨b, 0, none⟩) h.1 _, (Lib.OthersKept.refl _ _ w).setCell ⟨b, 0, none⟩ rfl _⟩
  · refine (copyCheck_used b w h.cell0).mono fun e w' ⟨he, hw⟩ => ?_
    subst hw
    exact ⟨he, h, Below.refl B _, Lib.OthersKept.refl _ _ _⟩

set_option maxHeartbeats 2000000 in
set_option maxRecDepth 100000 in
theorem writeString_any (B b : Nat) (bs : List Value) (s : ByteArray) (w : World) (h : Lib.IsBuilderF 59 5 B b bs w) (hlen : bs.length + s.size ≤ 140737488355328) (hBw : B ≤ w.heap.size) :
    Calls Try.prog 38 #[at0 b, .string s] w fun e w' => e = .returned (.tuple #[.int .i64 s.size, .nilIface]) ∧ Left B b (bs ++ Lib.strCells s) w w' := by
  obtain ⟨i0, hi, hz0, hz1, hz2⟩ := info_parts info5
  go_enter Try.func38, Try.ntmps38
  go_wp2_with (go_at_call 60; refine (copyCheck_any B b bs _ h).mono ?_)
  rintro e w1 ⟨rfl, hA, b1, k1⟩
  obtain ⟨u, c0, c1, _, _, hu⟩ := two_cells hA
  have hs1 := b1.size
  go_wp2_with (at_builtin; refine Lib.wpList_append_own_stringF _ rfl _ _ 57 9 rfl B 5 i0 Try.underlying57 Try.underlying9 hi hz0 hz1 hz2 _ _ _ rfl hu s rfl ?room ?bytes ?old ?_)
  case room => unfold maxLen; omega
  case bytes => omega
  case old => omega
  intro v' w2 hown hg _
  obtain ⟨d0, d1, f1, R1, R2, R3⟩ := stored (v' := v') (bs' := bs ++ Lib.strCells s) hA c1 hg (by simpa [Lib.strCells_length] using hown) (by omega)
  obtain ⟨ao, cap, rfl⟩ := slice_form hown
  go_wp2
  go_ret2
  exact ⟨rfl, .inr R1, b1.trans R2, k1.trans R3⟩

theorem sub_same (a b : Nat) : ((a : Int) + (b : Int) - (a : Int)) = (b : Int) := by omega

theorem setCell_heap {w : World} {b : Nat} {cs : Array Value} {T : TypeId} {fz : Nat × Nat} (hb : w.heap[b]? = some (.cells cs T fz)) (j : Nat) (v : Value) : (w.setCell ⟨b, j, none⟩ v).heap[b]? = some (.cells (cs.setIfInBounds j v) T fz) := by
  simp [World.setCell, Array.getElem?_modify, hb]
theorem builder_at {w : World} {B b : Nat} {bs : List Value} (h : Lib.IsBuilderF 59 5 B b bs w) : ∃ p, Lib.BuilderAtF 59 5 B b p bs w := h.elim (fun x => ⟨_, x⟩) (fun x => ⟨_, x⟩)

end Go.Proofs.Ytghkjbekjkejpaa.U
