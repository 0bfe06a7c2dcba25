/- What the proofs of this seat share: transactions that came in. -/
import Derived.Test.YtghkjbekjkejpaaBase
import Derived.Test.YtghkjbekjkejpaaTxnOwn
namespace Go.Proofs.Ytghkjbekjkejpaa
open Go.ChangeShapes Go.WideShapes Go.ChangeAt Go.RowKit Go.Deep

theorem reads26 : Try.prog.readableRec 26 = true := by kernel_rfl
theorem rows26 : 26 < Try.prog.types.size := by decide +kernel
theorem reads35 : Try.prog.readableRec 35 = true := by kernel_rfl
theorem rows35 : 35 < Try.prog.types.size := by decide +kernel
theorem cellsStr : Try.prog.cellsOf 42 = 1 := by kernel_rfl
theorem cellsVal : Try.prog.cellsOf 44 = 3 := by kernel_rfl
theorem cellsRefs : Try.prog.cellsOf 45 = 1 := by kernel_rfl
theorem cellsOp : Try.prog.cellsOf 47 = 7 := by kernel_rfl
theorem cellsDot : Try.prog.cellsOf 23 = 2 := by kernel_rfl
theorem cellsOps : Try.prog.cellsOf 24 = 1 := by kernel_rfl
theorem cellsTx : Try.prog.cellsOf 26 = 6 := by kernel_rfl
theorem cellsB : Try.prog.cellsOf 4 = 1 := by kernel_rfl
theorem array6 {α : Type} {cs : Array α} (h : cs.size = 6) : ∃ c0 c1 c2 c3 c4 c5, cs = #[c0, c1, c2, c3, c4, c5] := by
  obtain ⟨l⟩ := cs
  match l, h with
  | [c0, c1, c2, c3, c4, c5], _ => exact ⟨c0, c1, c2, c3, c4, c5, rfl⟩

set_option maxRecDepth 100000 in
/-- Seven cells of an operation. -/
theorem cells_op {H : Type} {enc : TypeId × Value → H} {W : World} {fuel : Nat} {c0 c1 c2 c3 c4 c5 c6 : Value} {x : DataW H × List MemPlace} (h : DataW.trod enc Try.prog W 0 (fun _ => true) true fuel 47 [c0, c1, c2, c3, c4, c5, c6] = some x) :
    ∃ o : Os.Op, (c0 = .int .i64 o.k ∧ c2 = .int .i64 o.vk ∧ c3 = .int .i64 o.vn ∧ c4 = .string ⟨o.vs.toArray⟩ ∧ c5 = .int .i64 o.n) ∧ O.opWide o ∧ U.strsAt W c1 o.p ∧ O.refsIn W c6 o.l := by
  obtain ⟨y0, y1, y2, y3, y4, m, hy0, hy1, hy2, hy3, hy4⟩ := trod_struct5 Try.underlying47 h
  simp only [cells3, cellsStr, cellsVal, cellsRefs, List.drop_zero, List.take_succ_cons, List.take_zero, List.drop_succ_cons] at hy0 hy1 hy2 hy3 hy4
  obtain ⟨k, e0, _, _⟩ := DataW.trod_int Try.underlying3 hy0
  obtain ⟨pv, xs, e1, hn, hz, hp⟩ := cells_strs hy1
  obtain ⟨vk, vn, vs, e2, e3, e4⟩ := cells_val hy2
  obtain ⟨n, e5, _, _⟩ := DataW.trod_int Try.underlying3 hy3
  obtain ⟨sv, l, e6, hs⟩ := cells_refs hy4
  have hmx : maxLen ≤ 9223372036854775807 := by decide
  simp only [List.cons.injEq, and_true] at e0 e1 e5 e6
  subst e1 e6
  exact ⟨⟨k, xs, vk, vn, vs, n, l⟩, ⟨e0, e2, e3, e4, e5⟩, ⟨by show xs.length ≤ _; omega, fun x hx => Nat.le_trans (hz x hx) hmx⟩, hp, hs⟩
set_option maxRecDepth 100000 in
/-- A slice of operations, by its cell. -/
theorem cells_ops {H : Type} {enc : TypeId × Value → H} {W : World} {fuel : Nat} {cs : List Value} {x : DataW H × List MemPlace} (h : DataW.trod enc Try.prog W 0 (fun _ => true) true fuel 24 cs = some x) :
    ∃ v os, cs = [v] ∧ O.opsIn W v os ∧ ∀ o ∈ os, O.opWide o := by
  rcases Go.Deep.open_slice Try.underlying24 h with ⟨e, _⟩ | ⟨a, len, cap, m, n, Dd, Pl, e, hb, hl, hm, hmm, _, hx⟩
  · exact ⟨_, [], e, O.opsIn_nil W, by simp⟩
  · have hlm : len ≤ m := by rw [hmm]; split <;> omega
    have each : ∀ i, i < len → ∃ o : Os.Op, O.opWide o ∧ ∃ pv sv, O.OcAt W (a.add (i * 7)) o pv sv ∧ U.strsAt W pv o.p ∧ O.refsIn W sv o.l := fun i hi => by
      obtain ⟨cs', h1, h2⟩ := hx i (by omega)
      rw [cellsOp] at h1
      obtain ⟨_, hlen, hcell⟩ := World.cells?_some h1
      match cs', hlen with
      | [c0, c1, c2, c3, c4, c5, c6], _ =>
        obtain ⟨o, ⟨e0, e2, e3, e4, e5⟩, hw, hp, hs⟩ := cells_op h2
        have g0 := hcell 0 (by omega)
        have g1 := hcell 1 (by omega)
        have g2 := hcell 2 (by omega)
        have g3 := hcell 3 (by omega)
        have g4 := hcell 4 (by omega)
        have g5 := hcell 5 (by omega)
        have g6 := hcell 6 (by omega)
        rw [O.add_add] at g0 g1 g2 g3 g4 g5 g6
        refine ⟨o, hw, c1, c6, ⟨?_, ?_, ?_, ?_, ?_, ?_, ?_⟩, hp, hs⟩
        · rw [← e0]; simpa using g0
        · rw [← O.add_plus _ _ 1 (by omega)]; simpa using g1
        · rw [← e2, ← O.add_plus _ _ 2 (by omega)]; simpa using g2
        · rw [← e3, ← O.add_plus _ _ 3 (by omega)]; simpa using g3
        · rw [← e4, ← O.add_plus _ _ 4 (by omega)]; simpa using g4
        · rw [← e5, ← O.add_plus _ _ 5 (by omega)]; simpa using g5
        · rw [← O.add_plus _ _ 6 (by omega)]; simpa using g6
    refine ⟨_, (List.range len).attach.map fun i => (each i.1 (List.mem_range.1 i.2)).choose, e, ⟨some a, cap, by simp, by simpa using hl, fun e => by simp at e, fun k hk => ?_⟩, fun o ho => ?_⟩
    · simp only [List.getElem_map, List.getElem_attach, List.getElem_range]
      obtain ⟨pv, sv, h1, h2, h3⟩ := (each k (by simpa using hk)).choose_spec.2
      exact ⟨a, pv, sv, rfl, h1, h2, h3⟩
    · obtain ⟨i, _, rfl⟩ := List.mem_map.1 ho
      exact (each i.1 (List.mem_range.1 i.2)).choose_spec.1
set_option maxRecDepth 100000 in
/-- Six cells of a transaction. -/
theorem cells_tx {H : Type} {enc : TypeId × Value → H} {W : World} {fuel : Nat} {c0 c1 c2 c3 c4 c5 : Value} {x : DataW H × List MemPlace} (h : DataW.trod enc Try.prog W 0 (fun _ => true) true fuel 26 [c0, c1, c2, c3, c4, c5] = some x) :
    ∃ t : Tx.Txn, (c0 = .int .i64 t.d.1 ∧ c1 = .int .i64 t.d.2 ∧ c2 = .int .i64 t.u ∧ c3 = .int .i64 t.t ∧ c4 = .bool t.thin) ∧ O.txWide t ∧ O.opsIn W c5 t.ops := by
  obtain ⟨y0, y1, y2, y3, y4, m, hy0, hy1, hy2, hy3, hy4⟩ := trod_struct5 Try.underlying26 h
  simp only [cells3, cellsB, cellsDot, cellsOps, List.drop_zero, List.take_succ_cons, List.take_zero, List.drop_succ_cons] at hy0 hy1 hy2 hy3 hy4
  obtain ⟨d, e0, e1⟩ := cells_dot hy0
  obtain ⟨u, e2, _, _⟩ := DataW.trod_int Try.underlying3 hy1
  obtain ⟨tt, e3, _, _⟩ := DataW.trod_int Try.underlying3 hy2
  obtain ⟨th, e4, _⟩ := DataW.trod_bool Try.underlying4 hy3
  obtain ⟨ov, os, e5, ho, hw⟩ := cells_ops hy4
  simp only [List.cons.injEq, and_true] at e2 e3 e4 e5
  subst e5
  exact ⟨⟨d, u, tt, th, os⟩, ⟨e0, e1, e2, e3, e4⟩, hw, ho⟩
set_option maxRecDepth 100000 in
/-- A transaction that came in. -/
theorem tx_read {H : Type} {enc : TypeId × Value → H} {W : World} {base : Nat} {v : Value} {d : DataW H} {p : List MemPlace} (hv : Value.okWide Try.prog W .any base 26 v) (h : DataW.Trod enc Try.prog W 0 (fun _ => true) true 26 v d p) :
    ∃ (t : Tx.Txn) (ov : Value), v = O.txV t ov ∧ O.txWide t ∧ O.opsIn W ov t.ops := by
  obtain ⟨cs, rfl, hsz⟩ := okWide_struct Try.underlying26 hv
  rw [cellsTx] at hsz
  obtain ⟨c0, c1, c2, c3, c4, c5, rfl⟩ := array6 hsz
  obtain ⟨fuel, hf⟩ := h
  simp only [Value.cells] at hf
  obtain ⟨t, ⟨e0, e1, e2, e3, e4⟩, hw, ho⟩ := cells_tx hf
  exact ⟨t, c5, by rw [e0, e1, e2, e3, e4], hw, ho⟩
set_option maxRecDepth 100000 in
/-- Transactions that came in. -/
theorem txs_read {H : Type} {enc : TypeId × Value → H} {W : World} {base : Nat} {v : Value} {d : DataW H} {p : List MemPlace} (hv : Value.okWide Try.prog W .any base 35 v) (h : DataW.Trod enc Try.prog W 0 (fun _ => true) true 35 v d p) :
    ∃ l : List Tx.Txn, (∀ t ∈ l, O.txWide t) ∧ l.length ≤ 9223372036854775807 ∧ O.txsIn W v l := by
  obtain ⟨a0, len0, cap0, rfl⟩ := okWide_slice Try.underlying35 hv
  obtain ⟨fuel, hf⟩ := h
  rcases Go.Deep.open_slice Try.underlying35 hf with ⟨e, _⟩ | ⟨a, len, cap, m, n, Dd, Pl, e, hb, hl, hm, hmm, _, hx⟩
  · simp [Value.cells] at e
    obtain ⟨rfl, rfl, rfl⟩ := e
    exact ⟨[], by simp, by simp, O.txsIn_nil W⟩
  · simp [Value.cells] at e
    obtain ⟨rfl, rfl, rfl⟩ := e
    have hmx : maxLen ≤ 9223372036854775807 := by decide
    have hlm : len0 ≤ m := by rw [hmm]; split <;> omega
    have each : ∀ i, i < len0 → ∃ t : Tx.Txn, O.txWide t ∧ ∃ ov, O.TcAt W (a.add (i * 6)) t ov ∧ O.opsIn W ov t.ops := fun i hi => by
      obtain ⟨cs', h1, h2⟩ := hx i (by omega)
      rw [cellsTx] at h1
      obtain ⟨_, hlen, hcell⟩ := World.cells?_some h1
      match cs', hlen with
      | [c0, c1, c2, c3, c4, c5], _ =>
        obtain ⟨t, ⟨e0, e1, e2, e3, e4⟩, hw, ho⟩ := cells_tx h2
        have g0 := hcell 0 (by omega)
        have g1 := hcell 1 (by omega)
        have g2 := hcell 2 (by omega)
        have g3 := hcell 3 (by omega)
        have g4 := hcell 4 (by omega)
        have g5 := hcell 5 (by omega)
        rw [O.add_add] at g0 g1 g2 g3 g4 g5
        refine ⟨t, hw, c5, ⟨?_, ?_, ?_, ?_, ?_, ?_⟩, ho⟩
        · rw [← e0]; simpa using g0
        · rw [← e1, ← O.add_plus _ _ 1 (by omega)]; simpa using g1
        · rw [← e2, ← O.add_plus _ _ 2 (by omega)]; simpa using g2
        · rw [← e3, ← O.add_plus _ _ 3 (by omega)]; simpa using g3
        · rw [← e4, ← O.add_plus _ _ 4 (by omega)]; simpa using g4
        · rw [← O.add_plus _ _ 5 (by omega)]; simpa using g5
    refine ⟨(List.range len0).attach.map fun i => (each i.1 (List.mem_range.1 i.2)).choose, fun t ht => ?_, by simp; omega, some a, cap0, by simp, by simpa using hl, fun e => by simp at e, fun k hk => ?_⟩
    · obtain ⟨i, _, rfl⟩ := List.mem_map.1 ht
      exact (each i.1 (List.mem_range.1 i.2)).choose_spec.1
    · simp only [List.getElem_map, List.getElem_attach, List.getElem_range]
      obtain ⟨ov, h1, h2⟩ := (each k (by simpa using hk)).choose_spec.2
      exact ⟨a, ov, rfl, h1, h2⟩
end Go.Proofs.Ytghkjbekjkejpaa
