/- An operation in memory: a value of seven cells; in a variable; loads of its parts. -/
import Derived.Test.YtghkjbekjkejpaaMemAll
import Derived.Test.YtghkjbekjkejpaaNamesAll
namespace Go.Proofs.Ytghkjbekjkejpaa.O
open Go.RowKit

/-- An operation, its slices written out. -/
abbrev opV (k : Int) (pv : Value) (vk vn : Int) (vs : List UInt8) (n : Int) (sv : Value) : Value := .agg #[.int .i64 k, pv, .int .i64 vk, .int .i64 vn, .string ⟨vs.toArray⟩, .int .i64 n, sv]
abbrev opO (k : Int) (pv : Value) (vk vn : Int) (vs : List UInt8) (n : Int) (sv : Value) : Obj := .cells #[.int .i64 k, pv, .int .i64 vk, .int .i64 vn, .string ⟨vs.toArray⟩, .int .i64 n, sv] 47
/-- An operation in a variable. -/
structure OAt (w : World) (b : Nat) (k : Int) (pv : Value) (vk vn : Int) (vs : List UInt8) (n : Int) (sv : Value) : Prop where
  c0 : w.cell? ⟨b, 0, none⟩ = some (.int .i64 k)
  c1 : w.cell? ⟨b, 1, none⟩ = some pv
  c2 : w.cell? ⟨b, 2, none⟩ = some (.int .i64 vk)
  c3 : w.cell? ⟨b, 3, none⟩ = some (.int .i64 vn)
  c4 : w.cell? ⟨b, 4, none⟩ = some (.string ⟨vs.toArray⟩)
  c5 : w.cell? ⟨b, 5, none⟩ = some (.int .i64 n)
  c6 : w.cell? ⟨b, 6, none⟩ = some sv
section
variable {w w' : World} {b : Nat} {k : Int} {pv : Value} {vk vn : Int} {vs : List UInt8} {n : Int} {sv : Value}
theorem OAt.new (w : World) (k : Int) (pv : Value) (vk vn : Int) (vs : List UInt8) (n : Int) (sv : Value) : OAt (w.alloc (opO k pv vk vn vs n sv)) w.heap.size k pv vk vn vs n sv := ⟨by simp, by simp, by simp, by simp, by simp, by simp, by simp⟩
theorem OAt.lt (h : OAt w b k pv vk vn vs n sv) : b < w.heap.size := World.block_lt_of_cell? w ⟨b, 0, none⟩ h.c0
theorem OAt.blk (h : OAt w b k pv vk vn vs n sv) (hb : w'.heap[b]? = w.heap[b]?) : OAt w' b k pv vk vn vs n sv :=
  ⟨(World.cell?_of_block (w := w) hb).trans h.c0, (World.cell?_of_block (w := w) hb).trans h.c1, (World.cell?_of_block (w := w) hb).trans h.c2, (World.cell?_of_block (w := w) hb).trans h.c3, (World.cell?_of_block (w := w) hb).trans h.c4, (World.cell?_of_block (w := w) hb).trans h.c5, (World.cell?_of_block (w := w) hb).trans h.c6⟩
theorem OAt.on (h : OAt w b k pv vk vn vs n sv) (hb : Below w.heap.size w w') : OAt w' b k pv vk vn vs n sv := h.blk (hb.block b h.lt)
theorem OAt.but {g : Nat} (h : OAt w b k pv vk vn vs n sv) (hb : But g w w') (hg : b ≠ g) : OAt w' b k pv vk vn vs n sv := h.blk (hb.block b h.lt hg)
theorem OAt.drew (h : OAt w b k pv vk vn vs n sv) : OAt w.drew b k pv vk vn vs n sv := h.blk rfl
theorem OAt.setOther (h : OAt w b k pv vk vn vs n sv) {p : Addr} (hp : p.block ≠ b) (v : Value) : OAt (w.setCell p v) b k pv vk vn vs n sv := h.blk (Below.heap_setCell w p v b (Ne.symm hp))
/-- Where a field's cells begin. -/
def off : Nat → Nat
  | 0 => 0
  | 1 => 1
  | 2 => 2
  | 3 => 5
  | _ => 6
end
section
variable {o : Oper} {a : Act} {w : World} {b : Nat} {k : Int} {pv : Value} {vk vn : Int} {vs : List UInt8} {n : Int} {sv : Value}
theorem exec_ofld {x : Operand} {i : Nat} (hi : i < 5) (ho : o.op = .fieldAddr 47 x i) (hx : a.eval x = .pointer (some ⟨b, 0, none⟩)) (w : World) :
    (execOp a.eval o).run Try.prog w = .ok (.value (.pointer (some ⟨b, off i, none⟩))) w := by
  unfold execOp
  match i, hi with
  | 0, _ =>
    simp only [ho, hx, Sem.run_bind]
    go_simp
    rfl
  | 1, _ =>
    simp only [ho, hx, Sem.run_bind]
    go_simp
    rfl
  | 2, _ =>
    simp only [ho, hx, Sem.run_bind]
    go_simp
    rfl
  | 3, _ =>
    simp only [ho, hx, Sem.run_bind]
    go_simp
    rfl
  | 4, _ =>
    simp only [ho, hx, Sem.run_bind]
    go_simp
    rfl
theorem exec_ldO {x : Operand} (ho : o.op = .load 47 x) (hx : a.eval x = .pointer (some ⟨b, 0, none⟩)) (h : OAt w b k pv vk vn vs n sv) :
    (execOp a.eval o).run Try.prog w = .ok (.value (opV k pv vk vn vs n sv)) w := by
  obtain ⟨h0, h1, h2, h3, h4, h5, h6⟩ := h
  unfold execOp
  simp only [ho, hx, Sem.run_bind]
  go_simp
theorem exec_ldSl {x : Operand} {q : Nat} (ho : o.op = .load 45 x) (hx : a.eval x = .pointer (some ⟨b, q, none⟩)) (h : w.cell? ⟨b, q, none⟩ = some sv) :
    (execOp a.eval o).run Try.prog w = .ok (.value sv) w := by
  unfold execOp
  simp only [ho, hx, Sem.run_bind]
  go_simp
theorem exec_ldStr {x : Operand} {q : Nat} (ho : o.op = .load 42 x) (hx : a.eval x = .pointer (some ⟨b, q, none⟩)) (h : w.cell? ⟨b, q, none⟩ = some sv) :
    (execOp a.eval o).run Try.prog w = .ok (.value sv) w := by
  unfold execOp
  simp only [ho, hx, Sem.run_bind]
  go_simp
end
end Go.Proofs.Ytghkjbekjkejpaa.O
