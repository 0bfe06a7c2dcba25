/- Transactions in memory: a slice of operations, a transaction in a variable and in a slice. -/
import Derived.Test.YtghkjbekjkejpaaOpMem
import Derived.Test.YtghkjbekjkejpaaTxns
import Derived.Test.YtghkjbekjkejpaaMemAll
namespace Go.Proofs.Ytghkjbekjkejpaa.O
open Go.RowKit

/-- An operation, its slices written out. -/
abbrev oV (o : Os.Op) (pv sv : Value) : Value := opV o.k pv o.vk o.vn o.vs o.n sv
abbrev oO (o : Os.Op) (pv sv : Value) : Obj := opO o.k pv o.vk o.vn o.vs o.n sv
/-- At this place there is this operation. -/
structure OcAt (w : World) (p : Addr) (o : Os.Op) (pv sv : Value) : Prop where
  c0 : w.cell? p = some (.int .i64 o.k)
  c1 : w.cell? ⟨p.block, p.off + 1, none⟩ = some pv
  c2 : w.cell? ⟨p.block, p.off + 2, none⟩ = some (.int .i64 o.vk)
  c3 : w.cell? ⟨p.block, p.off + 3, none⟩ = some (.int .i64 o.vn)
  c4 : w.cell? ⟨p.block, p.off + 4, none⟩ = some (.string ⟨o.vs.toArray⟩)
  c5 : w.cell? ⟨p.block, p.off + 5, none⟩ = some (.int .i64 o.n)
  c6 : w.cell? ⟨p.block, p.off + 6, none⟩ = some sv
theorem OcAt.on {w w' : World} {p : Addr} {o : Os.Op} {pv sv : Value} (h : OcAt w p o pv sv) (hb : Below w.heap.size w w') : OcAt w' p o pv sv :=
  ⟨keep_cell hb h.c0, keep_cell hb h.c1, keep_cell hb h.c2, keep_cell hb h.c3, keep_cell hb h.c4, keep_cell hb h.c5, keep_cell hb h.c6⟩
theorem strs_slice {w : World} {v : Value} {xs : List (List UInt8)} (h : U.strsAt w v xs) : ∃ ao n cap, v = .slice ao n cap := by
  obtain ⟨ao, cap, e, _⟩ := h
  exact ⟨ao, _, cap, e⟩
theorem refs_slice {w : World} {v : Value} {l : List U} (h : refsIn w v l) : ∃ ao n cap, v = .slice ao n cap := by
  obtain ⟨ao, cap, e, _⟩ := h
  exact ⟨ao, _, cap, e⟩
/-- A slice reads as these operations. -/
def opsIn (w : World) (v : Value) (os : List Os.Op) : Prop :=
  ∃ ao cap, v = .slice ao os.length cap ∧ os.length ≤ cap ∧ (ao = none → cap = 0) ∧ ∀ k (h : k < os.length), ∃ ad pv sv, ao = some ad ∧ OcAt w (ad.add (k * 7)) os[k] pv sv ∧ U.strsAt w pv os[k].p ∧ refsIn w sv os[k].l
theorem opsIn_nil (w : World) : opsIn w (.slice none 0 0) [] := ⟨none, 0, rfl, by simp, fun _ => rfl, fun k h => by simp at h⟩
theorem opsIn.on {w w' : World} {v : Value} {os : List Os.Op} (h : opsIn w v os) (hb : Below w.heap.size w w') : opsIn w' v os := by
  obtain ⟨ao, cap, hv, hm, h0, hc⟩ := h
  refine ⟨ao, cap, hv, hm, h0, fun k hk => ?_⟩
  obtain ⟨ad, pv, sv, h1, h2, h3, h4⟩ := hc k hk
  exact ⟨ad, pv, sv, h1, h2.on hb, U.strsAt_below h3 hb (Nat.le_refl _), h4.on hb⟩
theorem opsIn.len {w : World} {ao : Option Addr} {n cap : Nat} {os : List Os.Op} (h : opsIn w (.slice ao n cap) os) : n = os.length := by
  obtain ⟨_, _, e, _⟩ := h
  cases e
  rfl
theorem opsIn.slice {w : World} {v : Value} {os : List Os.Op} (h : opsIn w v os) : ∃ ao cap, v = .slice ao os.length cap := by
  obtain ⟨ao, cap, e, _⟩ := h
  exact ⟨ao, cap, e⟩
/-- The operation at a place. -/
theorem opsIn.get {w : World} {ao : Option Addr} {n cap : Nat} {os : List Os.Op} (h : opsIn w (.slice ao n cap) os) {k : Nat} (hk : k < os.length) :
    ∃ ad pv sv, ao = some ad ∧ OcAt w (ad.add (k * 7)) os[k] pv sv ∧ U.strsAt w pv os[k].p ∧ refsIn w sv os[k].l := by
  obtain ⟨ao', cap', e, _, _, hc⟩ := h
  cases e
  exact hc k hk

/-! ### Transactions -/
abbrev txV (t : Tx.Txn) (ov : Value) : Value := .agg #[.int .i64 t.d.1, .int .i64 t.d.2, .int .i64 t.u, .int .i64 t.t, .bool t.thin, ov]
abbrev txO (t : Tx.Txn) (ov : Value) : Obj := .cells #[.int .i64 t.d.1, .int .i64 t.d.2, .int .i64 t.u, .int .i64 t.t, .bool t.thin, ov] 26
/-- At this place there is this transaction. -/
structure TcAt (w : World) (p : Addr) (t : Tx.Txn) (ov : Value) : Prop where
  c0 : w.cell? p = some (.int .i64 t.d.1)
  c1 : w.cell? ⟨p.block, p.off + 1, none⟩ = some (.int .i64 t.d.2)
  c2 : w.cell? ⟨p.block, p.off + 2, none⟩ = some (.int .i64 t.u)
  c3 : w.cell? ⟨p.block, p.off + 3, none⟩ = some (.int .i64 t.t)
  c4 : w.cell? ⟨p.block, p.off + 4, none⟩ = some (.bool t.thin)
  c5 : w.cell? ⟨p.block, p.off + 5, none⟩ = some ov
theorem TcAt.on {w w' : World} {p : Addr} {t : Tx.Txn} {ov : Value} (h : TcAt w p t ov) (hb : Below w.heap.size w w') : TcAt w' p t ov :=
  ⟨keep_cell hb h.c0, keep_cell hb h.c1, keep_cell hb h.c2, keep_cell hb h.c3, keep_cell hb h.c4, keep_cell hb h.c5⟩
/-- In a variable there is this transaction. -/
structure TAt (w : World) (b : Nat) (t : Tx.Txn) (ov : Value) : Prop where
  c0 : w.cell? ⟨b, 0, none⟩ = some (.int .i64 t.d.1)
  c1 : w.cell? ⟨b, 1, none⟩ = some (.int .i64 t.d.2)
  c2 : w.cell? ⟨b, 2, none⟩ = some (.int .i64 t.u)
  c3 : w.cell? ⟨b, 3, none⟩ = some (.int .i64 t.t)
  c4 : w.cell? ⟨b, 4, none⟩ = some (.bool t.thin)
  c5 : w.cell? ⟨b, 5, none⟩ = some ov
section
variable {w w' : World} {b : Nat} {t : Tx.Txn} {ov : Value}
theorem TAt.new (w : World) (t : Tx.Txn) (ov : Value) : TAt (w.alloc (txO t ov)) w.heap.size t ov := ⟨by simp, by simp, by simp, by simp, by simp, by simp⟩
theorem TAt.lt (h : TAt w b t ov) : b < w.heap.size := World.block_lt_of_cell? w ⟨b, 0, none⟩ h.c0
theorem TAt.blk (h : TAt w b t ov) (hb : w'.heap[b]? = w.heap[b]?) : TAt w' b t ov :=
  ⟨(World.cell?_of_block (w := w) hb).trans h.c0, (World.cell?_of_block (w := w) hb).trans h.c1, (World.cell?_of_block (w := w) hb).trans h.c2, (World.cell?_of_block (w := w) hb).trans h.c3, (World.cell?_of_block (w := w) hb).trans h.c4, (World.cell?_of_block (w := w) hb).trans h.c5⟩
theorem TAt.on (h : TAt w b t ov) (hb : Below w.heap.size w w') : TAt w' b t ov := h.blk (hb.block b h.lt)
theorem TAt.but {g : Nat} (h : TAt w b t ov) (hb : But g w w') (hg : b ≠ g) : TAt w' b t ov := h.blk (hb.block b h.lt hg)
theorem TAt.drew (h : TAt w b t ov) : TAt w.drew b t ov := h.blk rfl
theorem TAt.setOther (h : TAt w b t ov) {p : Addr} (hp : p.block ≠ b) (v : Value) : TAt (w.setCell p v) b t ov := h.blk (Below.heap_setCell w p v b (Ne.symm hp))
theorem TAt.new2 (w : World) (t : Tx.Txn) (ov : Value) (t' : Tx.Txn) (ov' : Value) :
    TAt ((w.alloc (txO t ov)).alloc (txO t' ov')) w.heap.size t ov ∧ TAt ((w.alloc (txO t ov)).alloc (txO t' ov')) (w.heap.size + 1) t' ov' := by
  refine ⟨(TAt.new w t ov).on (below_new _ _), ?_⟩
  have h := TAt.new (w.alloc (txO t ov)) t' ov'
  have e : (w.alloc (txO t ov)).heap.size = w.heap.size + 1 := by simp
  rw [e] at h
  exact h
end
/-- Where a field's cells begin. -/
def toff : Nat → Nat
  | 0 => 0
  | 1 => 2
  | 2 => 3
  | 3 => 4
  | _ => 5
section
variable {o : Oper} {a : Act} {w : World} {b : Nat} {t : Tx.Txn} {ov : Value}
theorem exec_tfld {x : Operand} {i : Nat} (hi : i < 5) (ho : o.op = .fieldAddr 26 x i) (hx : a.eval x = .pointer (some ⟨b, 0, none⟩)) (w : World) :
    (execOp a.eval o).run Try.prog w = .ok (.value (.pointer (some ⟨b, toff i, none⟩))) w := by
  unfold execOp
  match i, hi with
  | 0, _ =>
    simp only [ho, hx, Sem.run_bind]
    go_simp
    rfl
  | 1, _ =>
    simp only [ho, hx, Sem.run_bind]
    go_simp
    rfl
  | 2, _ =>
    simp only [ho, hx, Sem.run_bind]
    go_simp
    rfl
  | 3, _ =>
    simp only [ho, hx, Sem.run_bind]
    go_simp
    rfl
  | 4, _ =>
    simp only [ho, hx, Sem.run_bind]
    go_simp
    rfl
theorem exec_ldT {x : Operand} (ho : o.op = .load 26 x) (hx : a.eval x = .pointer (some ⟨b, 0, none⟩)) (h : TAt w b t ov) :
    (execOp a.eval o).run Try.prog w = .ok (.value (txV t ov)) w := by
  obtain ⟨h0, h1, h2, h3, h4, h5⟩ := h
  unfold execOp
  simp only [ho, hx, Sem.run_bind]
  go_simp
end
/-- A slice reads as these transactions. -/
def txsIn (w : World) (v : Value) (ts : List Tx.Txn) : Prop :=
  ∃ ao cap, v = .slice ao ts.length cap ∧ ts.length ≤ cap ∧ (ao = none → cap = 0) ∧ ∀ k (h : k < ts.length), ∃ ad ov, ao = some ad ∧ TcAt w (ad.add (k * 6)) ts[k] ov ∧ opsIn w ov ts[k].ops
theorem txsIn_nil (w : World) : txsIn w (.slice none 0 0) [] := ⟨none, 0, rfl, by simp, fun _ => rfl, fun k h => by simp at h⟩
theorem txsIn.on {w w' : World} {v : Value} {ts : List Tx.Txn} (h : txsIn w v ts) (hb : Below w.heap.size w w') : txsIn w' v ts := by
  obtain ⟨ao, cap, hv, hm, h0, hc⟩ := h
  refine ⟨ao, cap, hv, hm, h0, fun k hk => ?_⟩
  obtain ⟨ad, ov, h1, h2, h3⟩ := hc k hk
  exact ⟨ad, ov, h1, h2.on hb, h3.on hb⟩
theorem txsIn.get {w : World} {ao : Option Addr} {n cap : Nat} {ts : List Tx.Txn} (h : txsIn w (.slice ao n cap) ts) {k : Nat} (hk : k < ts.length) :
    ∃ ad ov, ao = some ad ∧ TcAt w (ad.add (k * 6)) ts[k] ov ∧ opsIn w ov ts[k].ops := by
  obtain ⟨ao', cap', e, _, _, hc⟩ := h
  cases e
  exact hc k hk
/-- What came in has lengths that a machine's number tells. -/
def opWide (o : Os.Op) : Prop := o.p.length ≤ 9223372036854775807 ∧ ∀ x ∈ o.p, x.length ≤ 9223372036854775807
def txWide (t : Tx.Txn) : Prop := ∀ o ∈ t.ops, opWide o
end Go.Proofs.Ytghkjbekjkejpaa.O
