/- What the proofs of this seat share: operations and references that came in · What the proofs of this seat share: transactions that came in · What the proofs of this seat share: texts, dots and counts that came in · What the cards' proofs share: the table of tens as the listed variable holds it. -/
import Derived.Test.YthlhopdlkkeohaaGreatDoorRows
import Derived.Test.YthlhopdlkkeohaaGreatDoorQuotesAll
import Derived.Deep.SlicePairs
import Derived.Deep.Strs
import Derived.ProofKit
import Derived.OpenShut
import Derived.WideKeyArgs
import Derived.ChangeSame
import Derived.Test.YthlhopdlkkeohaaGreatDoorTxnOwnAll
import Derived.Test.YthlhopdlkkeohaaGreatDoorTMemAll
import Derived.Test.YthlhopdlkkeohaaGreatDoorERefAtAll
import Derived.LaidMore
import Derived.LaidLaws
import Derived.Lib.LaidTab
import Derived.Stop.Joined
import Derived.Stop.LaidErr
/- What the proofs of this seat share: operations and references that came in. -/
namespace Go.Proofs.YthlhopdlkkeohaaGreatDoor
open Go.ChangeShapes Go.WideShapes Go.ChangeAt Go.RowKit Go.Deep

theorem own : ownKnob Tryz.prog.godebug = none := by kernel_rfl
theorem laid_out : laidOutB Tryz.prog = true := by kernel_rfl
theorem reads65 : Tryz.prog.readableRec 65 = true := by kernel_rfl
theorem rows65 : 65 < Tryz.prog.types.size := by decide +kernel
theorem reads70 : Tryz.prog.readableRec 70 = true := by kernel_rfl
theorem rows70 : 70 < Tryz.prog.types.size := by decide +kernel
theorem cells3 : Tryz.prog.cellsOf 3 = 1 := by kernel_rfl
theorem cells9 : Tryz.prog.cellsOf 9 = 1 := by kernel_rfl
theorem cells22 : Tryz.prog.cellsOf 24 = 1 := by kernel_rfl
theorem cells24 : Tryz.prog.cellsOf 61 = 3 := by kernel_rfl
theorem cells25 : Tryz.prog.cellsOf 63 = 1 := by kernel_rfl
theorem cells27 : Tryz.prog.cellsOf 65 = 7 := by kernel_rfl
theorem cells29 : Tryz.prog.cellsOf 53 = 2 := by kernel_rfl
theorem cells31 : Tryz.prog.cellsOf 70 = 3 := by kernel_rfl

/-- A struct of five fields. -/
theorem trod_struct5 {P : Program} {H : Type} {enc : TypeId × Value → H} {w : World} {base : Nat} {spare : Nat → Bool} {held : Bool} {t : TypeId} {f0 f1 f2 f3 f4 : Field} {fuel : Nat} {cs : List Value} {x : DataW H × List MemPlace} (ht : P.underlying t = some (.struct #[f0, f1, f2, f3, f4])) (h : DataW.trod enc P w base spare held fuel t cs = some x) :
    ∃ y0 y1 y2 y3 y4 n, DataW.trod enc P w base spare held n f0.type ((cs.drop f0.offset).take (P.cellsOf f0.type)) = some y0 ∧
      DataW.trod enc P w base spare held n f1.type ((cs.drop f1.offset).take (P.cellsOf f1.type)) = some y1 ∧ DataW.trod enc P w base spare held n f2.type ((cs.drop f2.offset).take (P.cellsOf f2.type)) = some y2 ∧
      DataW.trod enc P w base spare held n f3.type ((cs.drop f3.offset).take (P.cellsOf f3.type)) = some y3 ∧ DataW.trod enc P w base spare held n f4.type ((cs.drop f4.offset).take (P.cellsOf f4.type)) = some y4 := by
  obtain ⟨xs, n, _, rfl, hl, hlen, hf⟩ := DataW.trod_struct ht h
  match xs, hlen with
  | [y0, y1, y2, y3, y4], _ => exact ⟨y0, y1, y2, y3, y4, n, by simpa using hf 0 f0 rfl, by simpa using hf 1 f1 rfl, by simpa using hf 2 f2 rfl, by simpa using hf 3 f3 rfl, by simpa using hf 4 f4 rfl⟩
theorem array7 {α : Type} {cs : Array α} (h : cs.size = 7) : ∃ c0 c1 c2 c3 c4 c5 c6, cs = #[c0, c1, c2, c3, c4, c5, c6] := by
  obtain ⟨l⟩ := cs
  match l, h with
  | [c0, c1, c2, c3, c4, c5, c6], _ => exact ⟨c0, c1, c2, c3, c4, c5, c6, rfl⟩
theorem array3 {α : Type} {cs : Array α} (h : cs.size = 3) : ∃ c0 c1 c2, cs = #[c0, c1, c2] := by
  obtain ⟨l⟩ := cs
  match l, h with
  | [c0, c1, c2], _ => exact ⟨c0, c1, c2, rfl⟩

set_option maxRecDepth 100000 in
/-- A slice of texts, by its cell. -/
theorem cells_strs {H : Type} {enc : TypeId × Value → H} {W : World} {fuel : Nat} {cs : List Value} {x : DataW H × List MemPlace} (h : DataW.trod enc Tryz.prog W 0 (fun _ => true) true fuel 24 cs = some x) :
    ∃ (v : Value) (xs : List (List UInt8)), cs = [v] ∧ xs.length ≤ maxLen ∧ (∀ x ∈ xs, x.length ≤ maxLen) ∧ U.strsAt W v xs := by
  rcases open_strs Tryz.underlying24 Tryz.underlying9 cells9 h with ⟨hcs, hx⟩ | ⟨a, len', cap', m, Sx, hcs, _, hl, hm, hmm, hx, hcell⟩
  · exact ⟨_, [], hcs, by simp, by simp, U.strsAt_nil _⟩
  · simp only [if_true] at hmm
    subst hmm
    refine ⟨_, (List.range len').map fun i => (Sx i).data.toList, hcs, ?_, ?_, some a, m, by simp, by simp; omega, ?_⟩
    · simp; omega
    · intro x hx
      simp only [List.mem_map, List.mem_range] at hx
      obtain ⟨i, hi, rfl⟩ := hx
      rw [U.size_len]
      exact (hcell i (by omega)).2
    · intro k hk
      simp at hk
      refine ⟨a, rfl, ?_⟩
      rw [(hcell k (by omega)).1]
      simp
set_option maxRecDepth 100000 in
/-- Two cells of a dot. -/
theorem cells_dot {H : Type} {enc : TypeId × Value → H} {W : World} {sp : Nat → Bool} {fuel : Nat} {c0 c1 : Value} {x : DataW H × List MemPlace} (h : DataW.trod enc Tryz.prog W 0 sp true fuel 53 [c0, c1] = some x) :
    ∃ d : D, c0 = .int .i64 d.1 ∧ c1 = .int .i64 d.2 := by
  obtain ⟨d, p⟩ := x
  obtain ⟨y0, y1, m, hx, _, hy0, hy1⟩ := trod_struct2 Tryz.underlying53 h
  obtain ⟨a, e0, _, wa⟩ := DataW.trod_int Tryz.underlying3 hy0
  obtain ⟨b, e1, _, wb⟩ := DataW.trod_int Tryz.underlying3 hy1
  simp [cells3] at e0 e1
  exact ⟨(a, b), e0, e1⟩
set_option maxRecDepth 100000 in
/-- Three cells of a reference. -/
theorem cells_ref {H : Type} {enc : TypeId × Value → H} {W : World} {sp : Nat → Bool} {fuel : Nat} {c0 c1 c2 : Value} {x : DataW H × List MemPlace} (h : DataW.trod enc Tryz.prog W 0 sp true fuel 70 [c0, c1, c2] = some x) :
    ∃ u : U, c0 = .int .i64 u.1.1 ∧ c1 = .int .i64 u.1.2 ∧ c2 = .int .i64 u.2 := by
  obtain ⟨d, p⟩ := x
  obtain ⟨y0, y1, m, hx, _, hy0, hy1⟩ := trod_struct2 Tryz.underlying70 h
  simp only [cells29, cells3, List.drop_zero, List.take_succ_cons, List.take_zero, List.drop_succ_cons] at hy0 hy1
  obtain ⟨q, e0, e1⟩ := cells_dot hy0
  obtain ⟨b, e2, _, wb⟩ := DataW.trod_int Tryz.underlying3 hy1
  exact ⟨(q, b), e0, e1, (List.cons.inj e2).1⟩
set_option maxRecDepth 100000 in
/-- Three cells of a value. -/
theorem cells_val {H : Type} {enc : TypeId × Value → H} {W : World} {sp : Nat → Bool} {fuel : Nat} {c0 c1 c2 : Value} {x : DataW H × List MemPlace} (h : DataW.trod enc Tryz.prog W 0 sp true fuel 61 [c0, c1, c2] = some x) :
    ∃ (k n : Int) (l : List UInt8), c0 = .int .i64 k ∧ c1 = .int .i64 n ∧ c2 = .string ⟨l.toArray⟩ := by
  obtain ⟨d, p⟩ := x
  obtain ⟨y0, y1, y2, m, hx, hd, hy0, hy1, hy2⟩ := Go.Deep.trod_struct3 Tryz.underlying61 h
  obtain ⟨a, e0, _, wa⟩ := DataW.trod_int Tryz.underlying3 hy0
  obtain ⟨b, e1, _, wb⟩ := DataW.trod_int Tryz.underlying3 hy1
  obtain ⟨s, e2, _, ws⟩ := DataW.trod_string Tryz.underlying9 hy2
  simp [cells3, cells9] at e0 e1 e2
  exact ⟨a, b, s.data.toList, e0, e1, by rw [e2]⟩
set_option maxRecDepth 100000 in
/-- A slice of references, by its cell. -/
theorem cells_refs {H : Type} {enc : TypeId × Value → H} {W : World} {sp : Nat → Bool} {fuel : Nat} {cs : List Value} {x : DataW H × List MemPlace} (h : DataW.trod enc Tryz.prog W 0 sp true fuel 63 cs = some x) :
    ∃ v l, cs = [v] ∧ O.refsIn W v l := by
  rcases Go.Deep.open_slice Tryz.underlying63 h with ⟨e, _⟩ | ⟨a, len, cap, m, n, Dd, Pl, e, hb, hl, hm, hmm, _, hx⟩
  · exact ⟨_, [], e, O.refsIn_nil W⟩
  · have hlm : len ≤ m := by rw [hmm]; split <;> omega
    have each : ∀ i, i < len → ∃ u : U, O.CAt W (a.add (i * 3)) u := fun i hi => by
      obtain ⟨cs', h1, h2⟩ := hx i (by omega)
      rw [cells31] at h1
      obtain ⟨_, hlen, hcell⟩ := World.cells?_some h1
      match cs', hlen with
      | [c0, c1, c2], _ =>
        obtain ⟨u, e0, e1, e2⟩ := cells_ref h2
        have g0 := hcell 0 (by omega)
        have g1 := hcell 1 (by omega)
        have g2 := hcell 2 (by omega)
        rw [O.add_add] at g0 g1 g2
        refine ⟨u, ?_, ?_, ?_⟩
        · rw [← e0]; simpa using g0
        · rw [← e1, ← O.add_one]; simpa using g1
        · rw [← e2, ← O.add_two]; simpa using g2
    refine ⟨_, (List.range len).attach.map fun i => (each i.1 (List.mem_range.1 i.2)).choose, e, some a, cap, by simp, by simpa using hl, fun e => by simp at e, fun k hk => ⟨a, rfl, ?_⟩⟩
    simp only [List.getElem_map, List.getElem_attach, List.getElem_range]
    exact (each k (by simpa using hk)).choose_spec

end Go.Proofs.YthlhopdlkkeohaaGreatDoor
/- What the proofs of this seat share: transactions that came in. -/
namespace Go.Proofs.YthlhopdlkkeohaaGreatDoor
open Go.ChangeShapes Go.WideShapes Go.ChangeAt Go.RowKit Go.Deep

theorem reads56 : Tryz.prog.readableRec 56 = true := by kernel_rfl
theorem rows56 : 56 < Tryz.prog.types.size := by decide +kernel
theorem reads22 : Tryz.prog.readableRec 22 = true := by kernel_rfl
theorem rows22 : 22 < Tryz.prog.types.size := by decide +kernel
theorem cellsStr : Tryz.prog.cellsOf 24 = 1 := by kernel_rfl
theorem cellsVal : Tryz.prog.cellsOf 61 = 3 := by kernel_rfl
theorem cellsRefs : Tryz.prog.cellsOf 63 = 1 := by kernel_rfl
theorem cellsOp : Tryz.prog.cellsOf 65 = 7 := by kernel_rfl
theorem cellsDot : Tryz.prog.cellsOf 53 = 2 := by kernel_rfl
theorem cellsOps : Tryz.prog.cellsOf 54 = 1 := by kernel_rfl
theorem cellsTx : Tryz.prog.cellsOf 56 = 6 := by kernel_rfl
theorem cellsB : Tryz.prog.cellsOf 4 = 1 := by kernel_rfl
theorem array6 {α : Type} {cs : Array α} (h : cs.size = 6) : ∃ c0 c1 c2 c3 c4 c5, cs = #[c0, c1, c2, c3, c4, c5] := by
  obtain ⟨l⟩ := cs
  match l, h with
  | [c0, c1, c2, c3, c4, c5], _ => exact ⟨c0, c1, c2, c3, c4, c5, rfl⟩

set_option maxRecDepth 100000 in
/-- Seven cells of an operation. -/
theorem cells_op {H : Type} {enc : TypeId × Value → H} {W : World} {fuel : Nat} {c0 c1 c2 c3 c4 c5 c6 : Value} {x : DataW H × List MemPlace} (h : DataW.trod enc Tryz.prog W 0 (fun _ => true) true fuel 65 [c0, c1, c2, c3, c4, c5, c6] = some x) :
    ∃ o : Os.Op, (c0 = .int .i64 o.k ∧ c2 = .int .i64 o.vk ∧ c3 = .int .i64 o.vn ∧ c4 = .string ⟨o.vs.toArray⟩ ∧ c5 = .int .i64 o.n) ∧ O.opWide o ∧ U.strsAt W c1 o.p ∧ O.refsIn W c6 o.l := by
  obtain ⟨y0, y1, y2, y3, y4, m, hy0, hy1, hy2, hy3, hy4⟩ := trod_struct5 Tryz.underlying65 h
  simp only [cells3, cellsStr, cellsVal, cellsRefs, List.drop_zero, List.take_succ_cons, List.take_zero, List.drop_succ_cons] at hy0 hy1 hy2 hy3 hy4
  obtain ⟨k, e0, _, _⟩ := DataW.trod_int Tryz.underlying3 hy0
  obtain ⟨pv, xs, e1, hn, hz, hp⟩ := cells_strs hy1
  obtain ⟨vk, vn, vs, e2, e3, e4⟩ := cells_val hy2
  obtain ⟨n, e5, _, _⟩ := DataW.trod_int Tryz.underlying3 hy3
  obtain ⟨sv, l, e6, hs⟩ := cells_refs hy4
  have hmx : maxLen ≤ 9223372036854775807 := by decide
  simp only [List.cons.injEq, and_true] at e0 e1 e5 e6
  subst e1 e6
  exact ⟨⟨k, xs, vk, vn, vs, n, l⟩, ⟨e0, e2, e3, e4, e5⟩, ⟨by show xs.length ≤ _; omega, fun x hx => Nat.le_trans (hz x hx) hmx⟩, hp, hs⟩
set_option maxRecDepth 100000 in
/-- A slice of operations, by its cell. -/
theorem cells_ops {H : Type} {enc : TypeId × Value → H} {W : World} {fuel : Nat} {cs : List Value} {x : DataW H × List MemPlace} (h : DataW.trod enc Tryz.prog W 0 (fun _ => true) true fuel 54 cs = some x) :
    ∃ v os, cs = [v] ∧ O.opsIn W v os ∧ ∀ o ∈ os, O.opWide o := by
  rcases Go.Deep.open_slice Tryz.underlying54 h with ⟨e, _⟩ | ⟨a, len, cap, m, n, Dd, Pl, e, hb, hl, hm, hmm, _, hx⟩
  · exact ⟨_, [], e, O.opsIn_nil W, by simp⟩
  · have hlm : len ≤ m := by rw [hmm]; split <;> omega
    have each : ∀ i, i < len → ∃ o : Os.Op, O.opWide o ∧ ∃ pv sv, O.OcAt W (a.add (i * 7)) o pv sv ∧ U.strsAt W pv o.p ∧ O.refsIn W sv o.l := fun i hi => by
      obtain ⟨cs', h1, h2⟩ := hx i (by omega)
      rw [cellsOp] at h1
      obtain ⟨_, hlen, hcell⟩ := World.cells?_some h1
      match cs', hlen with
      | [c0, c1, c2, c3, c4, c5, c6], _ =>
        obtain ⟨o, ⟨e0, e2, e3, e4, e5⟩, hw, hp, hs⟩ := cells_op h2
        have g0 := hcell 0 (by omega)
        have g1 := hcell 1 (by omega)
        have g2 := hcell 2 (by omega)
        have g3 := hcell 3 (by omega)
        have g4 := hcell 4 (by omega)
        have g5 := hcell 5 (by omega)
        have g6 := hcell 6 (by omega)
        rw [O.add_add] at g0 g1 g2 g3 g4 g5 g6
        refine ⟨o, hw, c1, c6, ⟨?_, ?_, ?_, ?_, ?_, ?_, ?_⟩, hp, hs⟩
        · rw [← e0]; simpa using g0
        · rw [← O.add_plus _ _ 1 (by omega)]; simpa using g1
        · rw [← e2, ← O.add_plus _ _ 2 (by omega)]; simpa using g2
        · rw [← e3, ← O.add_plus _ _ 3 (by omega)]; simpa using g3
        · rw [← e4, ← O.add_plus _ _ 4 (by omega)]; simpa using g4
        · rw [← e5, ← O.add_plus _ _ 5 (by omega)]; simpa using g5
        · rw [← O.add_plus _ _ 6 (by omega)]; simpa using g6
    refine ⟨_, (List.range len).attach.map fun i => (each i.1 (List.mem_range.1 i.2)).choose, e, ⟨some a, cap, by simp, by simpa using hl, fun e => by simp at e, fun k hk => ?_⟩, fun o ho => ?_⟩
    · simp only [List.getElem_map, List.getElem_attach, List.getElem_range]
      obtain ⟨pv, sv, h1, h2, h3⟩ := (each k (by simpa using hk)).choose_spec.2
      exact ⟨a, pv, sv, rfl, h1, h2, h3⟩
    · obtain ⟨i, _, rfl⟩ := List.mem_map.1 ho
      exact (each i.1 (List.mem_range.1 i.2)).choose_spec.1
set_option maxRecDepth 100000 in
/-- Six cells of a transaction. -/
theorem cells_tx {H : Type} {enc : TypeId × Value → H} {W : World} {fuel : Nat} {c0 c1 c2 c3 c4 c5 : Value} {x : DataW H × List MemPlace} (h : DataW.trod enc Tryz.prog W 0 (fun _ => true) true fuel 56 [c0, c1, c2, c3, c4, c5] = some x) :
    ∃ t : Tx.Txn, (c0 = .int .i64 t.d.1 ∧ c1 = .int .i64 t.d.2 ∧ c2 = .int .i64 t.u ∧ c3 = .int .i64 t.t ∧ c4 = .bool t.thin) ∧ O.txWide t ∧ O.opsIn W c5 t.ops := by
  obtain ⟨y0, y1, y2, y3, y4, m, hy0, hy1, hy2, hy3, hy4⟩ := trod_struct5 Tryz.underlying56 h
  simp only [cells3, cellsB, cellsDot, cellsOps, List.drop_zero, List.take_succ_cons, List.take_zero, List.drop_succ_cons] at hy0 hy1 hy2 hy3 hy4
  obtain ⟨d, e0, e1⟩ := cells_dot hy0
  obtain ⟨u, e2, _, _⟩ := DataW.trod_int Tryz.underlying3 hy1
  obtain ⟨tt, e3, _, _⟩ := DataW.trod_int Tryz.underlying3 hy2
  obtain ⟨th, e4, _⟩ := DataW.trod_bool Tryz.underlying4 hy3
  obtain ⟨ov, os, e5, ho, hw⟩ := cells_ops hy4
  simp only [List.cons.injEq, and_true] at e2 e3 e4 e5
  subst e5
  exact ⟨⟨d, u, tt, th, os⟩, ⟨e0, e1, e2, e3, e4⟩, hw, ho⟩
set_option maxRecDepth 100000 in
/-- Transactions that came in. -/
theorem txs_read {H : Type} {enc : TypeId × Value → H} {W : World} {base : Nat} {v : Value} {d : DataW H} {p : List MemPlace} (hv : Value.okWide Tryz.prog W .any base 22 v) (h : DataW.Trod enc Tryz.prog W 0 (fun _ => true) true 22 v d p) :
    ∃ l : List Tx.Txn, (∀ t ∈ l, O.txWide t) ∧ l.length ≤ 9223372036854775807 ∧ O.txsIn W v l := by
  obtain ⟨a0, len0, cap0, rfl⟩ := okWide_slice Tryz.underlying22 hv
  obtain ⟨fuel, hf⟩ := h
  rcases Go.Deep.open_slice Tryz.underlying22 hf with ⟨e, _⟩ | ⟨a, len, cap, m, n, Dd, Pl, e, hb, hl, hm, hmm, _, hx⟩
  · simp [Value.cells] at e
    obtain ⟨rfl, rfl, rfl⟩ := e
    exact ⟨[], by simp, by simp, O.txsIn_nil W⟩
  · simp [Value.cells] at e
    obtain ⟨rfl, rfl, rfl⟩ := e
    have hmx : maxLen ≤ 9223372036854775807 := by decide
    have hlm : len0 ≤ m := by rw [hmm]; split <;> omega
    have each : ∀ i, i < len0 → ∃ t : Tx.Txn, O.txWide t ∧ ∃ ov, O.TcAt W (a.add (i * 6)) t ov ∧ O.opsIn W ov t.ops := fun i hi => by
      obtain ⟨cs', h1, h2⟩ := hx i (by omega)
      rw [cellsTx] at h1
      obtain ⟨_, hlen, hcell⟩ := World.cells?_some h1
      match cs', hlen with
      | [c0, c1, c2, c3, c4, c5], _ =>
        obtain ⟨t, ⟨e0, e1, e2, e3, e4⟩, hw, ho⟩ := cells_tx h2
        have g0 := hcell 0 (by omega)
        have g1 := hcell 1 (by omega)
        have g2 := hcell 2 (by omega)
        have g3 := hcell 3 (by omega)
        have g4 := hcell 4 (by omega)
        have g5 := hcell 5 (by omega)
        rw [O.add_add] at g0 g1 g2 g3 g4 g5
        refine ⟨t, hw, c5, ⟨?_, ?_, ?_, ?_, ?_, ?_⟩, ho⟩
        · rw [← e0]; simpa using g0
        · rw [← e1, ← O.add_plus _ _ 1 (by omega)]; simpa using g1
        · rw [← e2, ← O.add_plus _ _ 2 (by omega)]; simpa using g2
        · rw [← e3, ← O.add_plus _ _ 3 (by omega)]; simpa using g3
        · rw [← e4, ← O.add_plus _ _ 4 (by omega)]; simpa using g4
        · rw [← O.add_plus _ _ 5 (by omega)]; simpa using g5
    refine ⟨(List.range len0).attach.map fun i => (each i.1 (List.mem_range.1 i.2)).choose, fun t ht => ?_, by simp; omega, some a, cap0, by simp, by simpa using hl, fun e => by simp at e, fun k hk => ?_⟩
    · obtain ⟨i, _, rfl⟩ := List.mem_map.1 ht
      exact (each i.1 (List.mem_range.1 i.2)).choose_spec.1
    · simp only [List.getElem_map, List.getElem_attach, List.getElem_range]
      obtain ⟨ov, h1, h2⟩ := (each k (by simpa using hk)).choose_spec.2
      exact ⟨a, ov, rfl, h1, h2⟩
end Go.Proofs.YthlhopdlkkeohaaGreatDoor
/- What the proofs of this seat share: texts, dots and counts that came in. -/
namespace Go.Proofs.YthlhopdlkkeohaaGreatDoor
open Go.ChangeShapes Go.WideShapes Go.ChangeAt Go.RowKit Go.Deep

theorem reads23 : Tryz.prog.readableRec 23 = true := by kernel_rfl
theorem rows23 : 23 < Tryz.prog.types.size := by decide +kernel
theorem reads24 : Tryz.prog.readableRec 24 = true := by kernel_rfl
theorem rows24 : 24 < Tryz.prog.types.size := by decide +kernel
theorem reads53 : Tryz.prog.readableRec 53 = true := by kernel_rfl
theorem rows53 : 53 < Tryz.prog.types.size := by decide +kernel
theorem cells59 : Tryz.prog.cellsOf 147 = 3 := by kernel_rfl
set_option maxRecDepth 100000 in
/-- A slice of texts that came in. -/
theorem strs_read {H : Type} {enc : TypeId × Value → H} {W : World} {base : Nat} {v : Value} {d : DataW H} {p : List MemPlace} (hv : Value.okWide Tryz.prog W .any base 24 v) (h : DataW.Trod enc Tryz.prog W 0 (fun _ => true) true 24 v d p) :
    ∃ xs, xs.length ≤ maxLen ∧ (∀ x ∈ xs, x.length ≤ maxLen) ∧ U.strsAt W v xs := by
  obtain ⟨a0, len0, cap0, rfl⟩ := okWide_slice Tryz.underlying24 hv
  obtain ⟨fuel, hf⟩ := h
  obtain ⟨v', xs, e, h1, h2, h3⟩ := cells_strs hf
  have e' : Value.slice a0 len0 cap0 = v' := by simpa [Value.cells] using e
  subst e'
  exact ⟨xs, h1, h2, h3⟩
set_option maxRecDepth 100000 in
/-- Three cells of a count. -/
theorem cells_cnt {H : Type} {enc : TypeId × Value → H} {W : World} {sp : Nat → Bool} {fuel : Nat} {c0 c1 c2 : Value} {x : DataW H × List MemPlace} (h : DataW.trod enc Tryz.prog W 0 sp true fuel 147 [c0, c1, c2] = some x) :
    ∃ u : U, c0 = .int .i64 u.1.1 ∧ c1 = .int .i64 u.1.2 ∧ c2 = .int .i64 u.2 := by
  obtain ⟨d, p⟩ := x
  obtain ⟨y0, y1, m, hx, _, hy0, hy1⟩ := trod_struct2 Tryz.underlying147 h
  simp only [cellsDot, cells3, List.drop_zero, List.take_succ_cons, List.take_zero, List.drop_succ_cons] at hy0 hy1
  obtain ⟨q, e0, e1⟩ := cells_dot hy0
  obtain ⟨b, e2, _, wb⟩ := DataW.trod_int Tryz.underlying3 hy1
  exact ⟨(q, b), e0, e1, (List.cons.inj e2).1⟩
set_option maxRecDepth 100000 in
/-- A slice of counts that came in. -/
theorem cnts_read {H : Type} {enc : TypeId × Value → H} {W : World} {base : Nat} {sp : Nat → Bool} {v : Value} {d : DataW H} {p : List MemPlace} (hv : Value.okWide Tryz.prog W .any base 23 v) (h : DataW.Trod enc Tryz.prog W 0 sp true 23 v d p) :
    ∃ l, T.cntsIn W v l := by
  obtain ⟨a0, len0, cap0, rfl⟩ := okWide_slice Tryz.underlying23 hv
  obtain ⟨fuel, hf⟩ := h
  rcases Go.Deep.open_slice Tryz.underlying23 hf with ⟨e, _⟩ | ⟨a, len, cap, m, n, Dd, Pl, e, hb, hl, hm, hmm, _, hx⟩
  · simp [Value.cells] at e
    obtain ⟨rfl, rfl, rfl⟩ := e
    exact ⟨[], T.cntsIn_nil W⟩
  · simp [Value.cells] at e
    obtain ⟨rfl, rfl, rfl⟩ := e
    have hlm : len0 ≤ m := by rw [hmm]; split <;> omega
    have each : ∀ i, i < len0 → ∃ u : U, T.CAt W (a.add (i * 3)) u := fun i hi => by
      obtain ⟨cs', h1, h2⟩ := hx i (by omega)
      rw [cells59] at h1
      obtain ⟨_, hlen, hcell⟩ := World.cells?_some h1
      match cs', hlen with
      | [c0, c1, c2], _ =>
        obtain ⟨u, e0, e1, e2⟩ := cells_cnt h2
        have g0 := hcell 0 (by omega)
        have g1 := hcell 1 (by omega)
        have g2 := hcell 2 (by omega)
        rw [T.add_add] at g0 g1 g2
        refine ⟨u, ?_, ?_, ?_⟩
        · rw [← e0]; simpa using g0
        · rw [← e1, ← T.add_one]; simpa using g1
        · rw [← e2, ← T.add_two]; simpa using g2
    refine ⟨(List.range len0).attach.map fun i => (each i.1 (List.mem_range.1 i.2)).choose, some a, cap0, by simp, by simpa using hl, fun e => by simp at e, fun k hk => ⟨a, rfl, ?_⟩⟩
    simp only [List.getElem_map, List.getElem_attach, List.getElem_range]
    exact (each k (by simpa using hk)).choose_spec
end Go.Proofs.YthlhopdlkkeohaaGreatDoor
/- What the cards' proofs share: the table of tens as the listed variable holds it. -/
namespace Go.Proofs.YthlhopdlkkeohaaGreatDoor
open Go.ChangeShapes Go.WideShapes Go.ChangeAt Go.RowKit Go.Deep

theorem gTens : Tryz.prog.globalNamed "internal/strconv.uint64pow10" = some 1 := by kernel_rfl
theorem tTens : (Tryz.prog.globals[1]?).map (·.type) = some 219 := by kernel_rfl
theorem cellsArr : Tryz.prog.cellsOf 219 = 20 := by kernel_rfl
theorem cellsU64 : Tryz.prog.cellsOf 165 = 1 := by kernel_rfl
def laid1 : List (String × DataW Unit) := [("math/bits.deBruijn32tab", Rows.laid_math_bits_deBruijn32tab), ("math/bits.deBruijn64tab", Rows.laid_math_bits_deBruijn64tab), ("internal/strconv.uint64pow10", Rows.laid_internal_strconv_uint64pow10)]
def tens : List Int := [1, 10, 100, 1000, 10000, 100000, 1000000, 10000000, 100000000, 1000000000, 10000000000, 100000000000, 1000000000000, 10000000000000, 100000000000000, 1000000000000000, 10000000000000000, 100000000000000000, 1000000000000000000, 10000000000000000000]
theorem tens_eq : tens = Lib.pow10Tab := by decide +kernel

/-- The door's own heap meets the condition. -/
theorem door_met (os : Os) (args : Array Value) : laidMetH Tryz.prog laid1 ((World.doorLaid Tryz.prog 400 os).forCall (fun _ _ => 0) ⟨#[], args, []⟩).memory :=
  laidMetH_of_parts3 (fuel := 8) (laidMet_of_run' 8 (by kernel_rfl) (by kernel_rfl)) (by kernel_rfl) (by kernel_rfl)

/-- What the condition gives the walks. -/
theorem tab_of_laid {W : World} (h : laidMetH Tryz.prog laid1 W) : N.Keeps W := by
  rw [MakeChecks.laidMetH_plain _ _ _ (by kernel_rfl)] at h
  refine ⟨?_⟩
  rw [← tens_eq]
  exact Lib.tabIs_of_head gTens tTens Tryz.underlying219 Tryz.underlying165 cellsU64 cellsArr h.tail.tail
end Go.Proofs.YthlhopdlkkeohaaGreatDoor
