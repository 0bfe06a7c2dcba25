/- An operation in memory: a value of seven cells; in a variable; loads of its parts · What the proofs of this seat share: operations and references that came in. -/
import Derived.Test.YtmnehekcealjhaaGreatValAll
import Derived.Test.YtmnehekcealjhaaGreatNamesAll
import Derived.Test.YtmnehekcealjhaaGreatRows
import Derived.Deep.SlicePairs
import Derived.Deep.Strs
import Derived.ProofKit
import Derived.OpenShut
import Derived.WideKeyArgs
import Derived.ChangeSame
/- An operation in memory: a value of seven cells; in a variable; loads of its parts. -/
namespace Go.Proofs.YtmnehekcealjhaaGreat.O
open Go.RowKit

/-- An operation, its slices written out. -/
abbrev opV (k : Int) (pv : Value) (vk vn : Int) (vs : List UInt8) (n : Int) (sv : Value) : Value := .agg #[.int .i64 k, pv, .int .i64 vk, .int .i64 vn, .string ⟨vs.toArray⟩, .int .i64 n, sv]
abbrev opO (k : Int) (pv : Value) (vk vn : Int) (vs : List UInt8) (n : Int) (sv : Value) : Obj := .cells #[.int .i64 k, pv, .int .i64 vk, .int .i64 vn, .string ⟨vs.toArray⟩, .int .i64 n, sv] 52
/-- An operation in a variable. -/
structure OAt (w : World) (b : Nat) (k : Int) (pv : Value) (vk vn : Int) (vs : List UInt8) (n : Int) (sv : Value) : Prop where
  c0 : w.cell? ⟨b, 0, none⟩ = some (.int .i64 k)
  c1 : w.cell? ⟨b, 1, none⟩ = some pv
  c2 : w.cell? ⟨b, 2, none⟩ = some (.int .i64 vk)
  c3 : w.cell? ⟨b, 3, none⟩ = some (.int .i64 vn)
  c4 : w.cell? ⟨b, 4, none⟩ = some (.string ⟨vs.toArray⟩)
  c5 : w.cell? ⟨b, 5, none⟩ = some (.int .i64 n)
  c6 : w.cell? ⟨b, 6, none⟩ = some sv
section
variable {w w' : World} {b : Nat} {k : Int} {pv : Value} {vk vn : Int} {vs : List UInt8} {n : Int} {sv : Value}
theorem OAt.new (w : World) (k : Int) (pv : Value) (vk vn : Int) (vs : List UInt8) (n : Int) (sv : Value) : OAt (w.alloc (opO k pv vk vn vs n sv)) w.heap.size k pv vk vn vs n sv := ⟨by simp, by simp, by simp, by simp, by simp, by simp, by simp⟩
theorem OAt.lt (h : OAt w b k pv vk vn vs n sv) : b < w.heap.size := World.block_lt_of_cell? w ⟨b, 0, none⟩ h.c0
theorem OAt.blk (h : OAt w b k pv vk vn vs n sv) (hb : w'.heap[b]? = w.heap[b]?) : OAt w' b k pv vk vn vs n sv :=
  ⟨(World.cell?_of_block (w := w) hb).trans h.c0, (World.cell?_of_block (w := w) hb).trans h.c1, (World.cell?_of_block (w := w) hb).trans h.c2, (World.cell?_of_block (w := w) hb).trans h.c3, (World.cell?_of_block (w := w) hb).trans h.c4, (World.cell?_of_block (w := w) hb).trans h.c5, (World.cell?_of_block (w := w) hb).trans h.c6⟩
theorem OAt.on (h : OAt w b k pv vk vn vs n sv) (hb : Below w.heap.size w w') : OAt w' b k pv vk vn vs n sv := h.blk (hb.block b h.lt)
theorem OAt.but {g : Nat} (h : OAt w b k pv vk vn vs n sv) (hb : But g w w') (hg : b ≠ g) : OAt w' b k pv vk vn vs n sv := h.blk (hb.block b h.lt hg)
theorem OAt.drew (h : OAt w b k pv vk vn vs n sv) : OAt w.drew b k pv vk vn vs n sv := h.blk rfl
theorem OAt.setOther (h : OAt w b k pv vk vn vs n sv) {p : Addr} (hp : p.block ≠ b) (v : Value) : OAt (w.setCell p v) b k pv vk vn vs n sv := h.blk (Below.heap_setCell w p v b (Ne.symm hp))
/-- Where a field's cells begin. -/
def off : Nat → Nat
  | 0 => 0
  | 1 => 1
  | 2 => 2
  | 3 => 5
  | _ => 6
end
section
variable {o : Oper} {a : Act} {w : World} {b : Nat} {k : Int} {pv : Value} {vk vn : Int} {vs : List UInt8} {n : Int} {sv : Value}
theorem exec_ofld {x : Operand} {i : Nat} (hi : i < 5) (ho : o.op = .fieldAddr 52 x i) (hx : a.eval x = .pointer (some ⟨b, 0, none⟩)) (w : World) :
    (execOp a.eval o).run Tryz.prog w = .ok (.value (.pointer (some ⟨b, off i, none⟩))) w := by
  unfold execOp
  match i, hi with
  | 0, _ =>
    simp only [ho, hx, Sem.run_bind]
    go_simp
    rfl
  | 1, _ =>
    simp only [ho, hx, Sem.run_bind]
    go_simp
    rfl
  | 2, _ =>
    simp only [ho, hx, Sem.run_bind]
    go_simp
    rfl
  | 3, _ =>
    simp only [ho, hx, Sem.run_bind]
    go_simp
    rfl
  | 4, _ =>
    simp only [ho, hx, Sem.run_bind]
    go_simp
    rfl
theorem exec_ldO {x : Operand} (ho : o.op = .load 52 x) (hx : a.eval x = .pointer (some ⟨b, 0, none⟩)) (h : OAt w b k pv vk vn vs n sv) :
    (execOp a.eval o).run Tryz.prog w = .ok (.value (opV k pv vk vn vs n sv)) w := by
  obtain ⟨h0, h1, h2, h3, h4, h5, h6⟩ := h
  unfold execOp
  simp only [ho, hx, Sem.run_bind]
  go_simp
theorem exec_ldSl {x : Operand} {q : Nat} (ho : o.op = .load 50 x) (hx : a.eval x = .pointer (some ⟨b, q, none⟩)) (h : w.cell? ⟨b, q, none⟩ = some sv) :
    (execOp a.eval o).run Tryz.prog w = .ok (.value sv) w := by
  unfold execOp
  simp only [ho, hx, Sem.run_bind]
  go_simp
theorem exec_ldStr {x : Operand} {q : Nat} (ho : o.op = .load 24 x) (hx : a.eval x = .pointer (some ⟨b, q, none⟩)) (h : w.cell? ⟨b, q, none⟩ = some sv) :
    (execOp a.eval o).run Tryz.prog w = .ok (.value sv) w := by
  unfold execOp
  simp only [ho, hx, Sem.run_bind]
  go_simp
end
end Go.Proofs.YtmnehekcealjhaaGreat.O
/- What the proofs of this seat share: operations and references that came in. -/
namespace Go.Proofs.YtmnehekcealjhaaGreat
open Go.ChangeShapes Go.WideShapes Go.ChangeAt Go.RowKit Go.Deep

theorem own : ownKnob Tryz.prog.godebug = none := by kernel_rfl
theorem laid_out : laidOutB Tryz.prog = true := by kernel_rfl
theorem reads52 : Tryz.prog.readableRec 52 = true := by kernel_rfl
theorem rows52 : 52 < Tryz.prog.types.size := by decide +kernel
theorem reads62 : Tryz.prog.readableRec 62 = true := by kernel_rfl
theorem rows62 : 62 < Tryz.prog.types.size := by decide +kernel
theorem cells3 : Tryz.prog.cellsOf 3 = 1 := by kernel_rfl
theorem cells9 : Tryz.prog.cellsOf 9 = 1 := by kernel_rfl
theorem cells22 : Tryz.prog.cellsOf 24 = 1 := by kernel_rfl
theorem cells24 : Tryz.prog.cellsOf 49 = 3 := by kernel_rfl
theorem cells25 : Tryz.prog.cellsOf 50 = 1 := by kernel_rfl
theorem cells27 : Tryz.prog.cellsOf 52 = 7 := by kernel_rfl
theorem cells29 : Tryz.prog.cellsOf 55 = 2 := by kernel_rfl
theorem cells31 : Tryz.prog.cellsOf 62 = 3 := by kernel_rfl

/-- A struct of five fields. -/
theorem trod_struct5 {P : Program} {H : Type} {enc : TypeId × Value → H} {w : World} {base : Nat} {spare : Nat → Bool} {held : Bool} {t : TypeId} {f0 f1 f2 f3 f4 : Field} {fuel : Nat} {cs : List Value} {x : DataW H × List MemPlace} (ht : P.underlying t = some (.struct #[f0, f1, f2, f3, f4])) (h : DataW.trod enc P w base spare held fuel t cs = some x) :
    ∃ y0 y1 y2 y3 y4 n, DataW.trod enc P w base spare held n f0.type ((cs.drop f0.offset).take (P.cellsOf f0.type)) = some y0 ∧
      DataW.trod enc P w base spare held n f1.type ((cs.drop f1.offset).take (P.cellsOf f1.type)) = some y1 ∧ DataW.trod enc P w base spare held n f2.type ((cs.drop f2.offset).take (P.cellsOf f2.type)) = some y2 ∧
      DataW.trod enc P w base spare held n f3.type ((cs.drop f3.offset).take (P.cellsOf f3.type)) = some y3 ∧ DataW.trod enc P w base spare held n f4.type ((cs.drop f4.offset).take (P.cellsOf f4.type)) = some y4 := by
  obtain ⟨xs, n, _, rfl, hl, hlen, hf⟩ := DataW.trod_struct ht h
  match xs, hlen with
  | [y0, y1, y2, y3, y4], _ => exact ⟨y0, y1, y2, y3, y4, n, by simpa using hf 0 f0 rfl, by simpa using hf 1 f1 rfl, by simpa using hf 2 f2 rfl, by simpa using hf 3 f3 rfl, by simpa using hf 4 f4 rfl⟩
theorem array7 {α : Type} {cs : Array α} (h : cs.size = 7) : ∃ c0 c1 c2 c3 c4 c5 c6, cs = #[c0, c1, c2, c3, c4, c5, c6] := by
  obtain ⟨l⟩ := cs
  match l, h with
  | [c0, c1, c2, c3, c4, c5, c6], _ => exact ⟨c0, c1, c2, c3, c4, c5, c6, rfl⟩
theorem array3 {α : Type} {cs : Array α} (h : cs.size = 3) : ∃ c0 c1 c2, cs = #[c0, c1, c2] := by
  obtain ⟨l⟩ := cs
  match l, h with
  | [c0, c1, c2], _ => exact ⟨c0, c1, c2, rfl⟩

set_option maxRecDepth 100000 in
/-- A slice of texts, by its cell. -/
theorem cells_strs {H : Type} {enc : TypeId × Value → H} {W : World} {fuel : Nat} {cs : List Value} {x : DataW H × List MemPlace} (h : DataW.trod enc Tryz.prog W 0 (fun _ => true) true fuel 24 cs = some x) :
    ∃ (v : Value) (xs : List (List UInt8)), cs = [v] ∧ xs.length ≤ maxLen ∧ (∀ x ∈ xs, x.length ≤ maxLen) ∧ U.strsAt W v xs := by
  rcases open_strs Tryz.underlying24 Tryz.underlying9 cells9 h with ⟨hcs, hx⟩ | ⟨a, len', cap', m, Sx, hcs, _, hl, hm, hmm, hx, hcell⟩
  · exact ⟨_, [], hcs, by simp, by simp, U.strsAt_nil _⟩
  · simp only [if_true] at hmm
    subst hmm
    refine ⟨_, (List.range len').map fun i => (Sx i).data.toList, hcs, ?_, ?_, some a, m, by simp, by simp; omega, ?_⟩
    · simp; omega
    · intro x hx
      simp only [List.mem_map, List.mem_range] at hx
      obtain ⟨i, hi, rfl⟩ := hx
      rw [U.size_len]
      exact (hcell i (by omega)).2
    · intro k hk
      simp at hk
      refine ⟨a, rfl, ?_⟩
      rw [(hcell k (by omega)).1]
      simp
set_option maxRecDepth 100000 in
/-- Two cells of a dot. -/
theorem cells_dot {H : Type} {enc : TypeId × Value → H} {W : World} {sp : Nat → Bool} {fuel : Nat} {c0 c1 : Value} {x : DataW H × List MemPlace} (h : DataW.trod enc Tryz.prog W 0 sp true fuel 55 [c0, c1] = some x) :
    ∃ d : D, c0 = .int .i64 d.1 ∧ c1 = .int .i64 d.2 := by
  obtain ⟨d, p⟩ := x
  obtain ⟨y0, y1, m, hx, _, hy0, hy1⟩ := trod_struct2 Tryz.underlying55 h
  obtain ⟨a, e0, _, wa⟩ := DataW.trod_int Tryz.underlying3 hy0
  obtain ⟨b, e1, _, wb⟩ := DataW.trod_int Tryz.underlying3 hy1
  simp [cells3] at e0 e1
  exact ⟨(a, b), e0, e1⟩
set_option maxRecDepth 100000 in
/-- Three cells of a reference. -/
theorem cells_ref {H : Type} {enc : TypeId × Value → H} {W : World} {sp : Nat → Bool} {fuel : Nat} {c0 c1 c2 : Value} {x : DataW H × List MemPlace} (h : DataW.trod enc Tryz.prog W 0 sp true fuel 62 [c0, c1, c2] = some x) :
    ∃ u : U, c0 = .int .i64 u.1.1 ∧ c1 = .int .i64 u.1.2 ∧ c2 = .int .i64 u.2 := by
  obtain ⟨d, p⟩ := x
  obtain ⟨y0, y1, m, hx, _, hy0, hy1⟩ := trod_struct2 Tryz.underlying62 h
  simp only [cells29, cells3, List.drop_zero, List.take_succ_cons, List.take_zero, List.drop_succ_cons] at hy0 hy1
  obtain ⟨q, e0, e1⟩ := cells_dot hy0
  obtain ⟨b, e2, _, wb⟩ := DataW.trod_int Tryz.underlying3 hy1
  exact ⟨(q, b), e0, e1, (List.cons.inj e2).1⟩
set_option maxRecDepth 100000 in
/-- Three cells of a value. -/
theorem cells_val {H : Type} {enc : TypeId × Value → H} {W : World} {sp : Nat → Bool} {fuel : Nat} {c0 c1 c2 : Value} {x : DataW H × List MemPlace} (h : DataW.trod enc Tryz.prog W 0 sp true fuel 49 [c0, c1, c2] = some x) :
    ∃ (k n : Int) (l : List UInt8), c0 = .int .i64 k ∧ c1 = .int .i64 n ∧ c2 = .string ⟨l.toArray⟩ := by
  obtain ⟨d, p⟩ := x
  obtain ⟨y0, y1, y2, m, hx, hd, hy0, hy1, hy2⟩ := Go.Deep.trod_struct3 Tryz.underlying49 h
  obtain ⟨a, e0, _, wa⟩ := DataW.trod_int Tryz.underlying3 hy0
  obtain ⟨b, e1, _, wb⟩ := DataW.trod_int Tryz.underlying3 hy1
  obtain ⟨s, e2, _, ws⟩ := DataW.trod_string Tryz.underlying9 hy2
  simp [cells3, cells9] at e0 e1 e2
  exact ⟨a, b, s.data.toList, e0, e1, by rw [e2]⟩
set_option maxRecDepth 100000 in
/-- A slice of references, by its cell. -/
theorem cells_refs {H : Type} {enc : TypeId × Value → H} {W : World} {sp : Nat → Bool} {fuel : Nat} {cs : List Value} {x : DataW H × List MemPlace} (h : DataW.trod enc Tryz.prog W 0 sp true fuel 50 cs = some x) :
    ∃ v l, cs = [v] ∧ O.refsIn W v l := by
  rcases Go.Deep.open_slice Tryz.underlying50 h with ⟨e, _⟩ | ⟨a, len, cap, m, n, Dd, Pl, e, hb, hl, hm, hmm, _, hx⟩
  · exact ⟨_, [], e, O.refsIn_nil W⟩
  · have hlm : len ≤ m := by rw [hmm]; split <;> omega
    have each : ∀ i, i < len → ∃ u : U, O.CAt W (a.add (i * 3)) u := fun i hi => by
      obtain ⟨cs', h1, h2⟩ := hx i (by omega)
      rw [cells31] at h1
      obtain ⟨_, hlen, hcell⟩ := World.cells?_some h1
      match cs', hlen with
      | [c0, c1, c2], _ =>
        obtain ⟨u, e0, e1, e2⟩ := cells_ref h2
        have g0 := hcell 0 (by omega)
        have g1 := hcell 1 (by omega)
        have g2 := hcell 2 (by omega)
        rw [O.add_add] at g0 g1 g2
        refine ⟨u, ?_, ?_, ?_⟩
        · rw [← e0]; simpa using g0
        · rw [← e1, ← O.add_one]; simpa using g1
        · rw [← e2, ← O.add_two]; simpa using g2
    refine ⟨_, (List.range len).attach.map fun i => (each i.1 (List.mem_range.1 i.2)).choose, e, some a, cap, by simp, by simpa using hl, fun e => by simp at e, fun k hk => ⟨a, rfl, ?_⟩⟩
    simp only [List.getElem_map, List.getElem_attach, List.getElem_range]
    exact (each k (by simpa using hk)).choose_spec

set_option maxRecDepth 100000 in
/-- A reference that came in. -/
theorem ref_read {H : Type} {enc : TypeId × Value → H} {W : World} {base : Nat} {sp : Nat → Bool} {v : Value} {d : DataW H} {p : List MemPlace} (hv : Value.okWide Tryz.prog W .any base 62 v) (h : DataW.Trod enc Tryz.prog W 0 sp true 62 v d p) :
    ∃ x : U, v = O.uV x := by
  obtain ⟨cs, rfl, hsz⟩ := okWide_struct Tryz.underlying62 hv
  rw [cells31] at hsz
  obtain ⟨c0, c1, c2, rfl⟩ := array3 hsz
  obtain ⟨fuel, hf⟩ := h
  simp [Value.cells] at hf
  obtain ⟨q, e0, e1, e2⟩ := cells_ref hf
  exact ⟨q, by rw [e0, e1, e2]⟩
set_option maxRecDepth 100000 in
/-- An operation that came in. -/
theorem op_read {H : Type} {enc : TypeId × Value → H} {W : World} {base : Nat} {v : Value} {d : DataW H} {p : List MemPlace} (hv : Value.okWide Tryz.prog W .any base 52 v) (h : DataW.Trod enc Tryz.prog W 0 (fun _ => true) true 52 v d p) :
    ∃ (k : Int) (pv : Value) (vk vn : Int) (vs : List UInt8) (n : Int) (sv : Value) (xs : List (List UInt8)) (l : List U), v = O.opV k pv vk vn vs n sv ∧ xs.length ≤ 9223372036854775807 ∧ (∀ x ∈ xs, x.length ≤ 9223372036854775807) ∧ U.strsAt W pv xs ∧ O.refsIn W sv l := by
  obtain ⟨cs, rfl, hsz⟩ := okWide_struct Tryz.underlying52 hv
  rw [cells27] at hsz
  obtain ⟨c0, c1, c2, c3, c4, c5, c6, rfl⟩ := array7 hsz
  obtain ⟨fuel, hf⟩ := h
  simp only [Value.cells] at hf
  obtain ⟨y0, y1, y2, y3, y4, m, hy0, hy1, hy2, hy3, hy4⟩ := trod_struct5 Tryz.underlying52 hf
  simp only [cells3, cells22, cells24, cells25, List.drop_zero, List.take_succ_cons, List.take_zero, List.drop_succ_cons] at hy0 hy1 hy2 hy3 hy4
  obtain ⟨k, e0, _, _⟩ := DataW.trod_int Tryz.underlying3 hy0
  obtain ⟨pv, xs, e1, hn, hz, hp⟩ := cells_strs hy1
  obtain ⟨vk, vn, vs, e2, e3, e4⟩ := cells_val hy2
  obtain ⟨n, e5, _, _⟩ := DataW.trod_int Tryz.underlying3 hy3
  obtain ⟨sv, l, e6, hs⟩ := cells_refs hy4
  have hmx : maxLen ≤ 9223372036854775807 := by decide
  refine ⟨k, pv, vk, vn, vs, n, sv, xs, l, ?_, by omega, fun x hx => Nat.le_trans (hz x hx) hmx, hp, hs⟩
  simp only [List.cons.injEq, and_true] at e0 e1 e5 e6
  rw [e0, e1, e2, e3, e4, e5, e6]
end Go.Proofs.YtmnehekcealjhaaGreat
