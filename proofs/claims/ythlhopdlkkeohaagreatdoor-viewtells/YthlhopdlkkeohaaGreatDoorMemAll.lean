/- Slices of references: how one lies in memory; rows that a call owns · Loads of references, operation by operation · An operation in memory: a value of seven cells; in a variable; loads of its parts · The walk of slices.Equal over references · The walks of Same and Gone, both sides · How two references stand, both sides · The walks of Check (by a closure), of the document's Check and of its Short · The walk of the document's Covers · Addresses and loads, operation by operation, wherever the thing lies · What clear does to a row of transactions, and to one of items. -/
import Derived.Test.YthlhopdlkkeohaaGreatDoorPathsAll
import Derived.Test.YthlhopdlkkeohaaGreatDoorLCompactAll
import Derived.Laws.AppendOwn
import Derived.Laws.AppendOwnNone
import Derived.OwnWalk
import Derived.Test.YthlhopdlkkeohaaGreatDoorQuotesAll
import Derived.Test.YthlhopdlkkeohaaGreatDoorLivesAll
/- Slices of references: how one lies in memory; rows that a call owns. -/
namespace Go.Proofs.YthlhopdlkkeohaaGreatDoor.O
open Go.RowKit

abbrev dV (d : D) : Value := .agg #[.int .i64 d.1, .int .i64 d.2]
abbrev uV (u : U) : Value := .agg #[.int .i64 u.1.1, .int .i64 u.1.2, .int .i64 u.2]
theorem keep_cell {W w1 : World} {a : Addr} {v : Value} (hb : Below W.heap.size W w1) (h : W.cell? a = some v) : w1.cell? a = some v := (hb.cell (World.block_lt_of_cell? W a h)).trans h
/-- Two dots, two counts, held against one another whole. -/
theorem equal_dot (w : World) (x y : D) : (Op.equalIn 10000 53 (dV x) (dV y)).run Tryz.prog w = .ok (decide (x = y)) w := by
  obtain ⟨a, b⟩ := x
  obtain ⟨a', b'⟩ := y
  have u3 := Tryz.underlying3
  have a3 := Tryz.isAgg3
  have z3 := Tryz.sizeOf3
  have hS : Tryz.prog.underlying 53 = some (.struct (Tryz.prog.fieldsOf 53)) := by kernel_rfl
  have hp : Tryz.prog.stoodInHeld 53 = false := by kernel_rfl
  rw [show (10000 : Nat) = 9999 + 1 from rfl, run_equalIn_agg w 9999 53 _ _ hS hp]
  simp only [Program.fieldsOf, Tryz.underlying53]
  go_simp
  by_cases h1 : a = a' <;> by_cases h2 : b = b' <;> simp [h1, h2]
theorem eql_dot (x y : D) (w : World) : (binOp .eql 53 (dV x) (dV y)).run Tryz.prog w = .ok (.bool (decide (x = y))) w := by
  rw [run_eql_struct, equal_dot w x y]
  rfl
theorem equal_cnt (w : World) (x y : U) : (Op.equalIn 10000 70 (uV x) (uV y)).run Tryz.prog w = .ok (decide (x = y)) w := by
  obtain ⟨⟨a, b⟩, c⟩ := x
  obtain ⟨⟨a', b'⟩, c'⟩ := y
  have u3 := Tryz.underlying3
  have a3 := Tryz.isAgg3
  have z3 := Tryz.sizeOf3
  have hS : Tryz.prog.underlying 70 = some (.struct (Tryz.prog.fieldsOf 70)) := by kernel_rfl
  have hp : Tryz.prog.stoodInHeld 70 = false := by kernel_rfl
  rw [show (10000 : Nat) = 9999 + 1 from rfl, run_equalIn_agg w 9999 70 _ _ hS hp]
  simp only [Program.fieldsOf, Tryz.underlying70]
  go_simp
  by_cases h1 : a = a' <;> by_cases h2 : b = b' <;> by_cases h3 : c = c' <;> simp [h1, h2, h3]
theorem eql_cnt (x y : U) (w : World) : (binOp .eql 70 (uV x) (uV y)).run Tryz.prog w = .ok (.bool (decide (x = y))) w := by
  rw [run_eql_struct, equal_cnt w x y]
  rfl
theorem neq_cnt (x y : U) (w : World) : (binOp .neq 70 (uV x) (uV y)).run Tryz.prog w = .ok (.bool (!decide (x = y))) w := by
  rw [run_neq_struct, equal_cnt w x y]
  rfl

/-- At this place there is this count. -/
def CAt (w : World) (p : Addr) (u : U) : Prop := w.cell? p = some (.int .i64 u.1.1) ∧ w.cell? ⟨p.block, p.off + 1, none⟩ = some (.int .i64 u.1.2) ∧ w.cell? ⟨p.block, p.off + 2, none⟩ = some (.int .i64 u.2)
theorem CAt.on {w w' : World} {p : Addr} {u : U} (h : CAt w p u) (hb : Below w.heap.size w w') : CAt w' p u := ⟨keep_cell hb h.1, keep_cell hb h.2.1, keep_cell hb h.2.2⟩
theorem CAt.new (w : World) (u : U) : CAt (w.alloc (.cells #[.int .i64 u.1.1, .int .i64 u.1.2, .int .i64 u.2] 70)) ⟨w.heap.size, 0, none⟩ u := ⟨by simp, by simp, by simp⟩
/-- At this place there is this dot. -/
def DAt (w : World) (b : Nat) (d : D) : Prop := w.cell? ⟨b, 0, none⟩ = some (.int .i64 d.1) ∧ w.cell? ⟨b, 1, none⟩ = some (.int .i64 d.2)
theorem DAt.on {w w' : World} {b : Nat} {d : D} (h : DAt w b d) (hb : Below w.heap.size w w') : DAt w' b d := ⟨keep_cell hb h.1, keep_cell hb h.2⟩
theorem DAt.new (w : World) (d : D) : DAt (w.alloc (.cells #[.int .i64 d.1, .int .i64 d.2] 53)) w.heap.size d := ⟨by simp, by simp⟩

/-- A slice reads as these counts. -/
def refsIn (w : World) (v : Value) (l : List U) : Prop :=
  ∃ ao cap, v = .slice ao l.length cap ∧ l.length ≤ cap ∧ (ao = none → cap = 0) ∧ ∀ k (h : k < l.length), ∃ ad, ao = some ad ∧ CAt w (ad.add (k * 3)) l[k]
theorem refsIn_nil (w : World) : refsIn w (.slice none 0 0) [] := ⟨none, 0, rfl, by simp, fun _ => rfl, fun k h => by simp at h⟩
theorem refsIn_none (w : World) (a : Addr) (cap : Nat) : refsIn w (.slice (some a) 0 cap) [] := ⟨some a, cap, rfl, by simp, fun h => by simp at h, fun k h => by simp at h⟩
theorem refsIn.on {w w' : World} {v : Value} {l : List U} (h : refsIn w v l) (hb : Below w.heap.size w w') : refsIn w' v l := by
  obtain ⟨ao, cap, hv, hm, h0, hc⟩ := h
  refine ⟨ao, cap, hv, hm, h0, fun k hk => ?_⟩
  obtain ⟨ad, h1, h2⟩ := hc k hk
  exact ⟨ad, h1, h2.on hb⟩
theorem refsIn.len {w : World} {ao : Option Addr} {n cap : Nat} {l : List U} (h : refsIn w (.slice ao n cap) l) : n = l.length := by
  obtain ⟨_, _, e, _⟩ := h
  cases e
  rfl
/-- Counts as cells. -/
def ucells (l : List U) : List Value := l.flatMap fun u => [.int .i64 u.1.1, .int .i64 u.1.2, .int .i64 u.2]
theorem ucells_nil : ucells [] = [] := rfl
theorem ucells_append (a b : List U) : ucells (a ++ b) = ucells a ++ ucells b := by simp [ucells]
theorem ucells_length : ∀ l : List U, (ucells l).length = l.length * 3
  | [] => rfl
  | u :: l => by have := ucells_length l; simp [ucells] at *; omega
theorem ucells_at : ∀ (l : List U) (k : Nat) (h : k < l.length), (ucells l)[k * 3]? = some (.int .i64 (l[k]).1.1) ∧ (ucells l)[k * 3 + 1]? = some (.int .i64 (l[k]).1.2) ∧ (ucells l)[k * 3 + 2]? = some (.int .i64 (l[k]).2)
  | u :: l, 0, _ => by simp [ucells]
  | u :: l, k + 1, h => by
    have := ucells_at l k (by simpa using h)
    have e : ucells (u :: l) = .int .i64 u.1.1 :: .int .i64 u.1.2 :: .int .i64 u.2 :: ucells l := rfl
    rw [e, show (k + 1) * 3 = k * 3 + 1 + 1 + 1 by omega]
    simpa using this
theorem ucells_one (l : List U) : ∀ u ∈ ucells l, u.oneCell' = true := by
  intro u hu
  simp only [ucells, List.mem_flatMap, List.mem_cons, List.not_mem_nil, or_false] at hu
  obtain ⟨d, _, rfl | rfl | rfl⟩ := hu <;> rfl
/-- What is at place j. -/
theorem ucells_get (l : List U) (j : Nat) (u : Value) (h : (ucells l)[j]? = some u) : ∃ k, ∃ hk : k < l.length, (j = k * 3 ∧ u = .int .i64 (l[k]).1.1) ∨ (j = k * 3 + 1 ∧ u = .int .i64 (l[k]).1.2) ∨ (j = k * 3 + 2 ∧ u = .int .i64 (l[k]).2) := by
  have hj : j < (ucells l).length := (List.getElem?_eq_some_iff.1 h).1
  rw [ucells_length] at hj
  refine ⟨j / 3, by omega, ?_⟩
  obtain ⟨h0, h1, h2⟩ := ucells_at l (j / 3) (by omega)
  have hm : j % 3 = 0 ∨ j % 3 = 1 ∨ j % 3 = 2 := by omega
  rcases hm with e | e | e
  · left
    have hj2 : j = j / 3 * 3 := by omega
    refine ⟨hj2, ?_⟩
    rw [← hj2, h] at h0
    exact Option.some.inj h0
  · right; left
    have hj2 : j = j / 3 * 3 + 1 := by omega
    refine ⟨hj2, ?_⟩
    rw [← hj2, h] at h1
    exact Option.some.inj h1
  · right; right
    have hj2 : j = j / 3 * 3 + 2 := by omega
    refine ⟨hj2, ?_⟩
    rw [← hj2, h] at h2
    exact Option.some.inj h2
theorem add_one (ad : Addr) (k : Nat) : ad.add (k * 3 + 1) = ⟨(ad.add (k * 3)).block, (ad.add (k * 3)).off + 1, none⟩ := by
  unfold Addr.add
  by_cases h : k = 0
  · subst h; simp
  · have : ¬ k * 3 = 0 := by omega
    rw [if_neg (by omega), if_neg this]
    simp; omega
theorem add_two (ad : Addr) (k : Nat) : ad.add (k * 3 + 2) = ⟨(ad.add (k * 3)).block, (ad.add (k * 3)).off + 2, none⟩ := by
  unfold Addr.add
  by_cases h : k = 0
  · subst h; simp
  · have : ¬ k * 3 = 0 := by omega
    rw [if_neg (by omega), if_neg this]
    simp; omega
theorem add_block (a : Addr) (k : Nat) : (a.add k).block = a.block := by unfold Addr.add; split <;> rfl
theorem add_add (a : Addr) (j k : Nat) : (a.add j).add k = a.add (j + k) := by
  unfold Addr.add
  by_cases h : k = 0
  · subst h; simp
  · by_cases h' : j = 0
    · subst h'; simp
    · rw [if_neg h, if_neg h', if_neg (by omega)]
      simp; omega
theorem refsIn.cells {w : World} {ad : Addr} {n cap : Nat} {l : List U} (h : refsIn w (.slice (some ad) n cap) l) : ∀ j u, (ucells l)[j]? = some u → w.cell? (ad.add j) = some u := by
  obtain ⟨ao, c, hv, _, _, hc⟩ := h
  intro j u hu
  cases hv
  obtain ⟨k, hk, ⟨rfl, rfl⟩ | ⟨rfl, rfl⟩ | ⟨rfl, rfl⟩⟩ := ucells_get l j u hu <;> obtain ⟨ad', e, h0, h1, h2⟩ := hc k hk <;> cases e
  · exact h0
  · rw [add_one]; exact h1
  · rw [add_two]; exact h2
theorem refsIn_of {w : World} {ad : Addr} {cap : Nat} {l : List U} (hm : l.length ≤ cap) (h : ∀ j u, (ucells l)[j]? = some u → w.cell? (ad.add j) = some u) : refsIn w (.slice (some ad) l.length cap) l := by
  refine ⟨some ad, cap, rfl, hm, fun e => by simp at e, fun k hk => ⟨ad, rfl, ?_, ?_, ?_⟩⟩
  · exact h _ _ (ucells_at l k hk).1
  · rw [← add_one]; exact h _ _ (ucells_at l k hk).2.1
  · rw [← add_two]; exact h _ _ (ucells_at l k hk).2.2
/-- All but the first one. -/
theorem refsIn.tail {w : World} {ad : Addr} {n cap : Nat} {u : U} {l : List U} (h : refsIn w (.slice (some ad) n cap) (u :: l)) : refsIn w (.slice (some (ad.add 3)) (n - 1) (cap - 1)) l := by
  obtain ⟨ao, c, hv, hm, _, hc⟩ := h
  cases hv
  refine ⟨some (ad.add 3), cap - 1, by simp, by simp at hm; omega, fun e => by simp at e, fun k hk => ⟨ad.add 3, rfl, ?_⟩⟩
  obtain ⟨ad', e, h0⟩ := hc (k + 1) (by simpa using hk)
  cases e
  rw [add_add, show 3 + k * 3 = (k + 1) * 3 by omega]
  exact h0
theorem refsIn.head {w : World} {ao : Option Addr} {n cap : Nat} {u : U} {l : List U} (h : refsIn w (.slice ao n cap) (u :: l)) : ∃ ad, ao = some ad ∧ CAt w ad u := by
  obtain ⟨ao', c, hv, hm, _, hc⟩ := h
  cases hv
  obtain ⟨ad, e, h0⟩ := hc 0 (by simp)
  exact ⟨ad, e, by simpa [Addr.add] using h0⟩
/-! ### Rows that a call owns -/
theorem info31 : ∃ i0, Tryz.prog.info? 70 = some i0 ∧ i0.zero = some (.agg #[.int .i64 0, .int .i64 0, .int .i64 0]) ∧ i0.size = 3 ∧ i0.bytes = 24 := info_parts (by kernel_rfl)
theorem own_grown {w wr w1 : World} {B s : Nat} {e : TypeId} {v : Value} {n : Nat} {xs : List Value} (hown : wr.ownsRow B e s v n xs) (hB : B ≤ wr.heap.size) (hbw : Below B w wr) (hgrow : wr.grownBy w1 v.ownBlock) : Below B w w1 :=
  hbw.grown hgrow (by omega) (fun k hk => (hown.lt k hk).1)
theorem own_on {w w' : World} {B s n : Nat} {e : TypeId} {v : Value} {xs : List Value} (h : w.ownsRow B e s v n xs) (hb : Below w.heap.size w w') : w'.ownsRow B e s v n xs := by
  refine ⟨h.1, ?_⟩
  rcases h.2 with hn | ⟨g, cap, cur, hv, hbg, hg, r⟩
  · exact Or.inl hn
  · exact Or.inr ⟨g, cap, cur, hv, hbg, (hb.block g (Array.getElem?_eq_some_iff.1 hg).1).trans hg, r⟩
theorem own_base {w : World} {b b' s n : Nat} {e : TypeId} {v : Value} {xs : List Value} (h : w.ownsRow b e s v n xs) (hb : b' ≤ b) : w.ownsRow b' e s v n xs := by
  refine ⟨h.1, ?_⟩
  rcases h.2 with hn | ⟨g, cap, cur, hv, hbg, r⟩
  · exact Or.inl hn
  · exact Or.inr ⟨g, cap, cur, hv, Nat.le_trans hb hbg, r⟩
theorem new_row (w : World) (u : U) : ∀ j v, (ucells [u])[j]? = some v → (w.alloc (.cells #[.int .i64 u.1.1, .int .i64 u.1.2, .int .i64 u.2] 70)).cell? ((⟨w.heap.size, 0, none⟩ : Addr).add j) = some v := by
  intro j v hv
  have e : (⟨w.heap.size, 0, none⟩ : Addr).add j = ⟨w.heap.size, j, none⟩ := by unfold Addr.add; split <;> simp_all
  rw [e, cell_of_row _ w.heap.size j _ 70 (0, 0) (heap_alloc_new w _)]
  simpa [ucells] using hv
/-- A row of one count. -/
theorem refsIn_one (w : World) (u : U) : refsIn (w.alloc (.cells #[.int .i64 u.1.1, .int .i64 u.1.2, .int .i64 u.2] 70)) (.slice (some ⟨w.heap.size, 0, none⟩) 1 1) [u] := refsIn_of (l := [u]) (by simp) (new_row w u)
theorem ret_bool {a b : Bool} (h : a = b) : (Ending.returned (.bool a)) = .returned (.bool b) := by rw [h]
theorem ret_int {a b : Int} (h : a = b) : (Ending.returned (.int .i64 a)) = .returned (.int .i64 b) := by rw [h]
end Go.Proofs.YthlhopdlkkeohaaGreatDoor.O
/- Loads of references, operation by operation. -/
namespace Go.Proofs.YthlhopdlkkeohaaGreatDoor.O
open Go.RowKit
section
variable {o : Oper} {a : Act} {w : World}
theorem exec_idx {x y : Operand} {ad : Addr} {n c k : Nat} (ho : o.op = .indexAddr 63 x y) (hx : a.eval x = .slice (some ad) n c) (hy : a.eval y = .int .i64 (k : Int)) (hk : k < n) (w : World) :
    (execOp a.eval o).run Tryz.prog w = .ok (.value (.pointer (some (ad.add (k * 3))))) w := by
  have h0 : (0 : Int) ≤ (k : Int) := by omega
  have h1 : (k : Int) < (n : Int) := by omega
  unfold execOp
  simp only [ho, hx, hy, Sem.run_bind]
  go_simp
theorem exec_fld0 {x : Operand} {p : Addr} (ho : o.op = .fieldAddr 70 x 0) (hx : a.eval x = .pointer (some p)) (w : World) :
    (execOp a.eval o).run Tryz.prog w = .ok (.value (.pointer (some p))) w := by
  unfold execOp
  simp only [ho, hx, Sem.run_bind]
  go_simp
theorem exec_ldU {x : Operand} {p : Addr} {u : U} (ho : o.op = .load 70 x) (hx : a.eval x = .pointer (some p)) (h : CAt w p u) :
    (execOp a.eval o).run Tryz.prog w = .ok (.value (uV u)) w := by
  obtain ⟨h0, h1, h2⟩ := h
  unfold execOp
  simp only [ho, hx, Sem.run_bind]
  go_simp
theorem exec_ldD {x : Operand} {p : Addr} {u : U} (ho : o.op = .load 53 x) (hx : a.eval x = .pointer (some p)) (h : CAt w p u) :
    (execOp a.eval o).run Tryz.prog w = .ok (.value (dV u.1)) w := by
  obtain ⟨h0, h1, h2⟩ := h
  unfold execOp
  simp only [ho, hx, Sem.run_bind]
  go_simp
end
end Go.Proofs.YthlhopdlkkeohaaGreatDoor.O
/- An operation in memory: a value of seven cells; in a variable; loads of its parts. -/
namespace Go.Proofs.YthlhopdlkkeohaaGreatDoor.O
open Go.RowKit

/-- An operation, its slices written out. -/
abbrev opV (k : Int) (pv : Value) (vk vn : Int) (vs : List UInt8) (n : Int) (sv : Value) : Value := .agg #[.int .i64 k, pv, .int .i64 vk, .int .i64 vn, .string ⟨vs.toArray⟩, .int .i64 n, sv]
abbrev opO (k : Int) (pv : Value) (vk vn : Int) (vs : List UInt8) (n : Int) (sv : Value) : Obj := .cells #[.int .i64 k, pv, .int .i64 vk, .int .i64 vn, .string ⟨vs.toArray⟩, .int .i64 n, sv] 65
/-- An operation in a variable. -/
structure OAt (w : World) (b : Nat) (k : Int) (pv : Value) (vk vn : Int) (vs : List UInt8) (n : Int) (sv : Value) : Prop where
  c0 : w.cell? ⟨b, 0, none⟩ = some (.int .i64 k)
  c1 : w.cell? ⟨b, 1, none⟩ = some pv
  c2 : w.cell? ⟨b, 2, none⟩ = some (.int .i64 vk)
  c3 : w.cell? ⟨b, 3, none⟩ = some (.int .i64 vn)
  c4 : w.cell? ⟨b, 4, none⟩ = some (.string ⟨vs.toArray⟩)
  c5 : w.cell? ⟨b, 5, none⟩ = some (.int .i64 n)
  c6 : w.cell? ⟨b, 6, none⟩ = some sv
section
variable {w w' : World} {b : Nat} {k : Int} {pv : Value} {vk vn : Int} {vs : List UInt8} {n : Int} {sv : Value}
theorem OAt.new (w : World) (k : Int) (pv : Value) (vk vn : Int) (vs : List UInt8) (n : Int) (sv : Value) : OAt (w.alloc (opO k pv vk vn vs n sv)) w.heap.size k pv vk vn vs n sv := ⟨by simp, by simp, by simp, by simp, by simp, by simp, by simp⟩
theorem OAt.lt (h : OAt w b k pv vk vn vs n sv) : b < w.heap.size := World.block_lt_of_cell? w ⟨b, 0, none⟩ h.c0
theorem OAt.blk (h : OAt w b k pv vk vn vs n sv) (hb : w'.heap[b]? = w.heap[b]?) : OAt w' b k pv vk vn vs n sv :=
  ⟨(World.cell?_of_block (w := w) hb).trans h.c0, (World.cell?_of_block (w := w) hb).trans h.c1, (World.cell?_of_block (w := w) hb).trans h.c2, (World.cell?_of_block (w := w) hb).trans h.c3, (World.cell?_of_block (w := w) hb).trans h.c4, (World.cell?_of_block (w := w) hb).trans h.c5, (World.cell?_of_block (w := w) hb).trans h.c6⟩
theorem OAt.on (h : OAt w b k pv vk vn vs n sv) (hb : Below w.heap.size w w') : OAt w' b k pv vk vn vs n sv := h.blk (hb.block b h.lt)
theorem OAt.but {g : Nat} (h : OAt w b k pv vk vn vs n sv) (hb : But g w w') (hg : b ≠ g) : OAt w' b k pv vk vn vs n sv := h.blk (hb.block b h.lt hg)
theorem OAt.drew (h : OAt w b k pv vk vn vs n sv) : OAt w.drew b k pv vk vn vs n sv := h.blk rfl
theorem OAt.setOther (h : OAt w b k pv vk vn vs n sv) {p : Addr} (hp : p.block ≠ b) (v : Value) : OAt (w.setCell p v) b k pv vk vn vs n sv := h.blk (Below.heap_setCell w p v b (Ne.symm hp))
/-- Where a field's cells begin. -/
def off : Nat → Nat
  | 0 => 0
  | 1 => 1
  | 2 => 2
  | 3 => 5
  | _ => 6
end
section
variable {o : Oper} {a : Act} {w : World} {b : Nat} {k : Int} {pv : Value} {vk vn : Int} {vs : List UInt8} {n : Int} {sv : Value}
end
end Go.Proofs.YthlhopdlkkeohaaGreatDoor.O
/- The walk of slices.Equal over references. -/
namespace Go.Proofs.YthlhopdlkkeohaaGreatDoor.O
open Go.RowKit

/-- So many of the counts are the same. -/
def sameTo (xs ys : List U) (k : Nat) : Prop := xs.take k = ys.take k
theorem sameTo_zero (xs ys : List U) : sameTo xs ys 0 := by simp [sameTo]
theorem sameTo_step {xs ys : List U} {k : Nat} (h : sameTo xs ys k) (h1 : k < xs.length) (h2 : k < ys.length) (he : xs[k] = ys[k]) : sameTo xs ys (k + 1) := by
  unfold sameTo at h ⊢
  rw [List.take_succ_eq_append_getElem h1, List.take_succ_eq_append_getElem h2, h, he]
theorem same_not {xs ys : List U} {k : Nat} (h1 : k < xs.length) (h2 : k < ys.length) (he : ¬ xs[k] = ys[k]) : decide (xs = ys) = false := by
  apply decide_eq_false
  intro e
  subst e
  exact he rfl
theorem same_all {xs ys : List U} {k : Nat} (h : sameTo xs ys k) (h1 : ¬ k < xs.length) (hl : xs.length = ys.length) : decide (xs = ys) = true := by
  apply decide_eq_true
  unfold sameTo at h
  rwa [List.take_of_length_le (by omega), List.take_of_length_le (by omega)] at h
theorem CAt.heap {w w' : World} {p : Addr} {u : U} (h : CAt w p u) (e : w'.heap = w.heap) : CAt w' p u := ⟨(World.cell?_of_block (by rw [e])).trans h.1, (World.cell?_of_block (by rw [e])).trans h.2.1, (World.cell?_of_block (by rw [e])).trans h.2.2⟩

end Go.Proofs.YthlhopdlkkeohaaGreatDoor.O
/- The walks of Same and Gone, both sides. -/
namespace Go.Proofs.YthlhopdlkkeohaaGreatDoor.O
open Go.RowKit

theorem neq_val (k n : Int) (l : List UInt8) (k' n' : Int) (l' : List UInt8) (w : World) : (binOp .neq 61 (valV k n l) (valV k' n' l')).run Tryz.prog w = .ok (.bool (!decide (k = k' ∧ n = n' ∧ l = l'))) w := by
  go_simp
  by_cases h1 : k = k' <;> by_cases h2 : n = n' <;> by_cases h3 : l = l' <;> simp [h1, h2, h3]
theorem same_no {a b : Os.Op} (h : ¬ (a.k = b.k ∧ a.p = b.p ∧ (a.vk = b.vk ∧ a.vn = b.vn ∧ a.vs = b.vs) ∧ a.n = b.n)) : Os.same a b = false := by
  unfold Os.same
  exact decide_eq_false fun x => h ⟨x.1, x.2.1, x.2.2.1, x.2.2.2.1⟩

set_option maxRecDepth 20000 in
set_option maxHeartbeats 2000000 in
theorem refGone_any (k : Int) (pv : Value) (vk vn : Int) (vs : List UInt8) (n : Int) (sv : Value) (p : List (List UInt8)) (l : List U) (w : World) (hp : U.strsAt w pv p) (hs : refsIn w sv l) :
    Calls Tryz.prog 104 #[opV k pv vk vn vs n sv] w fun e w' => e = .returned (.bool (Os.gone ⟨k, p, vk, vn, vs, n, l⟩)) ∧ Below w.heap.size w w' := by
  have B0 := below_new2 w (opO k pv vk vn vs n sv) (valO 0 0 [])
  obtain ⟨ao, cp, rfl, -, -⟩ := hp
  obtain ⟨bo, cs, rfl, -, -, -⟩ := hs
  by_cases h1 : k = 0
  rotate_left
  · rw [show Os.gone ⟨k, p, vk, vn, vs, n, l⟩ = false from decide_eq_false (fun x => h1 x.1)]
    have e1 : (k == 0) = false := beq_eq_false_iff_ne.2 h1
    clear h1
    go_enter Tryz.func104, Tryz.ntmps104
    go_wp2
    go_ret
    exact ⟨rfl, B0⟩
  subst h1
  by_cases h2 : p = []
  rotate_left
  · rw [show Os.gone ⟨0, p, vk, vn, vs, n, l⟩ = false from decide_eq_false (fun x => h2 x.2.1)]
    have e2 : (((p.length : Nat) : Int) == 0) = false := beq_eq_false_iff_ne.2 (by have : p.length ≠ 0 := fun e => h2 (List.eq_nil_of_length_eq_zero e); omega)
    clear h2
    go_enter Tryz.func104, Tryz.ntmps104
    go_wp2
    go_ret
    exact ⟨rfl, B0⟩
  subst h2
  have hE := fun w => eql_val vk vn vs 0 0 [] w
  by_cases h3 : vk = 0 ∧ vn = 0 ∧ vs = []
  rotate_left
  · rw [show Os.gone ⟨0, [], vk, vn, vs, n, l⟩ = false from decide_eq_false (fun x => h3 x.2.2.1)]
    rw [decide_eq_false h3] at hE
    clear h3
    go_enter Tryz.func104, Tryz.ntmps104
    go_wp2
    go_ret
    exact ⟨rfl, B0⟩
  obtain ⟨rfl, rfl, rfl⟩ := h3
  clear hE
  by_cases h4 : n = 0
  rotate_left
  · rw [show Os.gone ⟨0, [], 0, 0, [], n, l⟩ = false from decide_eq_false (fun x => h4 x.2.2.2.1)]
    have e4 : (n == 0) = false := beq_eq_false_iff_ne.2 h4
    clear h4
    go_enter Tryz.func104, Tryz.ntmps104
    go_wp2
    go_ret
    exact ⟨rfl, B0⟩
  subst h4
  by_cases h5 : l = []
  · subst h5
    rw [show Os.gone ⟨0, [], 0, 0, [], 0, []⟩ = true from rfl]
    go_enter Tryz.func104, Tryz.ntmps104
    go_wp2
    go_ret
    exact ⟨rfl, B0⟩
  · rw [show Os.gone ⟨0, [], 0, 0, [], 0, l⟩ = false from decide_eq_false (fun x => h5 x.2.2.2.2)]
    have e5 : (((l.length : Nat) : Int) == 0) = false := beq_eq_false_iff_ne.2 (by have : l.length ≠ 0 := fun e => h5 (List.eq_nil_of_length_eq_zero e); omega)
    clear h5
    go_enter Tryz.func104, Tryz.ntmps104
    go_wp2
    go_ret
    exact ⟨rfl, B0⟩

end Go.Proofs.YthlhopdlkkeohaaGreatDoor.O
/- How two references stand, both sides. -/
namespace Go.Proofs.YthlhopdlkkeohaaGreatDoor.O
open Go.RowKit

theorem refCmpR_any (x y : U) (w : World) : Calls Tryz.prog 173 #[uV x, uV y] w fun e w' => e = .returned (.int .i64 (Os.comp x y)) ∧ Below w.heap.size w w' := D.refRefs_any x.1.1 x.1.2 x.2 y.1.1 y.1.2 y.2 w

end Go.Proofs.YthlhopdlkkeohaaGreatDoor.O
/- The walks of Check (by a closure), of the document's Check and of its Short. -/
namespace Go.Proofs.YthlhopdlkkeohaaGreatDoor.U
open Go.RowKit

theorem refRight_list (l : List UInt8) (w : World) (hl : l.length ≤ 2000000) : Calls Tryz.prog 171 #[.string ⟨l.toArray⟩] w fun e w' => e = .returned (.bool (Nm.right l)) ∧ Below w.heap.size w w' := refRight_any ⟨l.toArray⟩ w (by simp [ByteArray.size]; exact hl)

/-- So many parts are names. -/
def namesTo (xs : List (List UInt8)) (k : Nat) : Prop := ∀ x ∈ xs.take k, Nm.right x = true
theorem namesTo_zero (xs : List (List UInt8)) : namesTo xs 0 := by intro x hx; simp at hx
theorem namesTo_step {xs : List (List UInt8)} {k : Nat} (h : namesTo xs k) (hk : k < xs.length) (hx : Nm.right xs[k] = true) : namesTo xs (k + 1) := by
  intro x hm
  rw [List.take_succ_eq_append_getElem hk] at hm
  rcases List.mem_append.1 hm with hm | hm
  · exact h x hm
  · rw [List.mem_singleton.1 hm]; exact hx
theorem names_all {xs : List (List UInt8)} {k : Nat} (h : namesTo xs k) (hk : ¬ k < xs.length) : xs.all Nm.right = true := by
  unfold namesTo at h
  rw [List.take_of_length_le (by omega)] at h
  exact List.all_eq_true.2 h
theorem names_not {xs : List (List UInt8)} {k : Nat} (hk : k < xs.length) (hx : Nm.right xs[k] = false) : xs.all Nm.right = false := by
  cases e : xs.all Nm.right with
  | false => rfl
  | true =>
    have := List.all_eq_true.1 e xs[k] (List.getElem_mem hk)
    rw [this] at hx
    cases hx

/-- Where the first part stands that is no name; -1: nowhere. -/
def firstWrong (xs : List (List UInt8)) (r : Int) : Prop := (0 ≤ r ∧ xs.all Nm.right = false) ∨ (r = -1 ∧ xs.all Nm.right = true)

set_option maxRecDepth 20000 in
set_option maxHeartbeats 2000000 in
theorem refCheck_any (v : Value) (xs : List (List UInt8)) (w : World) (hx : xs.length ≤ 9223372036854775807) (hz : ∀ x ∈ xs, x.length ≤ 2000000) (hv : strsAt w v xs) :
    Calls Tryz.prog 135 #[v] w fun e w' => e = .returned (.int .i64 (Pt.check xs : Nat)) ∧ Below w.heap.size w w' := by
  obtain ⟨ao, ca, rfl, _, hc⟩ := hv
  by_cases h0 : xs.length = 0
  · have HL : Hid (Pt.check xs = 8) := Pt.check_none h0
    clear hc
    go_enter Tryz.func135, Tryz.ntmps135
    go_wp2
    go_ret
    exact ⟨by rw [HL.out]; rfl, Below.refl _ w⟩
  · by_cases h8 : 8 < xs.length
    · have HL : Hid (Pt.check xs = 9) := Pt.check_deep h8
      clear hc
      go_enter Tryz.func135, Tryz.ntmps135
      go_wp2
      go_ret
      exact ⟨by rw [HL.out]; rfl, Below.refl _ w⟩
    · have h0' : ((xs.length : Int) == 0) = false := beq_eq_false_iff_ne.2 (by omega)
      go_enter Tryz.func135, Tryz.ntmps135
      go_wp2
      go_loopw [3] (fun i wr => ∃ k : Nat, k ≤ xs.length ∧ i = .int .i64 k ∧ namesTo xs k ∧ Below w.heap.size w wr) (fun i _ => xs.length - (intOf i).toNat)
      case atStart => exact ⟨0, by omega, rfl, namesTo_zero _, Below.refl _ w⟩
      case round =>
        obtain ⟨k, hk, rfl, hS, hbw⟩ := hrel
        by_cases hlt : k < xs.length
        · obtain ⟨ad, rfl, hA⟩ := hc k hlt
          have hA2 : wr.cell? (ad.add k) = some (.string ⟨(xs[k]).toArray⟩) := (hbw.cell (World.block_lt_of_cell? _ _ hA)).trans hA
          clear hc hA
          have HC := fun W => refRight_list xs[k] W (hz _ (List.getElem_mem hlt))
          clear hz
          cases hr : Nm.right xs[k] with
          | true =>
            have HS : Hid (namesTo xs (k + 1)) := namesTo_step hS hlt hr
            rw [hr] at HC
            clear hS hr
            generalize xs[k] = x at *
            go_wp2_with (go_at_call 171; (refine (HC _).mono ?_); rintro e w1 ⟨rfl, hb1⟩)
            go_roundw
            case rel => exact ⟨k + 1, by omega, by go_num, HS.out, hbw.trans (hb1.mono hbw.size)⟩
            case measure => simp [intOf]; omega
          | false =>
            have HL : Hid (Pt.check xs = 8) := Pt.check_not h0 h8 (names_not hlt hr)
            rw [hr] at HC
            clear hS hr
            generalize xs[k] = x at *
            go_wp2_with (go_at_call 171; (refine (HC _).mono ?_); rintro e w1 ⟨rfl, hb1⟩)
            go_ret
            exact ⟨by rw [HL.out]; rfl, hbw.trans (hb1.mono hbw.size)⟩
        · have HL : Hid (Pt.check xs = 0) := Pt.check_all h0 h8 (names_all hS hlt)
          clear hc hS hz
          go_wp2
          go_ret
          exact ⟨by rw [HL.out]; rfl, hbw⟩

/-! ### Short -/
def lensTo (xs : List (List UInt8)) (k : Nat) : Prop := ∀ x ∈ xs.take k, x.length ≤ 120
theorem lensTo_zero (xs : List (List UInt8)) : lensTo xs 0 := by intro x hx; simp at hx
theorem lensTo_step {xs : List (List UInt8)} {k : Nat} (h : lensTo xs k) (hk : k < xs.length) (hx : xs[k].length ≤ 120) : lensTo xs (k + 1) := by
  intro x hm
  rw [List.take_succ_eq_append_getElem hk] at hm
  rcases List.mem_append.1 hm with hm | hm
  · exact h x hm
  · rw [List.mem_singleton.1 hm]; exact hx
theorem short_yes {xs : List (List UInt8)} {k : Nat} (h : lensTo xs k) (hk : ¬ k < xs.length) (hl : xs.length ≤ 12) : Pt.short xs = true := by
  unfold lensTo at h
  rw [List.take_of_length_le (by omega)] at h
  unfold Pt.short
  rw [decide_eq_true hl, List.all_eq_true.2 (fun x hx => decide_eq_true (h x hx))]
  rfl
theorem short_not {xs : List (List UInt8)} {k : Nat} (hk : k < xs.length) (hx : 120 < xs[k].length) : Pt.short xs = false := by
  cases e : Pt.short xs with
  | false => rfl
  | true =>
    have := (Pt.short_iff e).2 xs[k] (List.getElem_mem hk)
    omega
theorem short_many {xs : List (List UInt8)} (h : 12 < xs.length) : Pt.short xs = false := by
  unfold Pt.short
  rw [decide_eq_false (by omega)]
  rfl

set_option maxRecDepth 20000 in
set_option maxHeartbeats 2000000 in
theorem short_any (v : Value) (xs : List (List UInt8)) (w : World) (hx : xs.length ≤ 9223372036854775807) (hz : ∀ x ∈ xs, x.length ≤ 9223372036854775807) (hv : strsAt w v xs) :
    Calls Tryz.prog 7 #[v] w fun e w' => e = .returned (.bool (Pt.short xs)) ∧ Below w.heap.size w w' := by
  obtain ⟨ao, ca, rfl, _, hc⟩ := hv
  by_cases h8 : 12 < xs.length
  · have HL : Hid (Pt.short xs = false) := short_many h8
    clear hc
    go_enter Tryz.func7, Tryz.ntmps7
    go_wp2
    go_ret
    exact ⟨ret_bool HL.out.symm, Below.refl _ w⟩
  · go_enter Tryz.func7, Tryz.ntmps7
    go_wp2
    go_loopw [3] (fun i wr => ∃ k : Nat, k ≤ xs.length ∧ i = .int .i64 k ∧ lensTo xs k ∧ Below w.heap.size w wr) (fun i _ => xs.length - (intOf i).toNat)
    case atStart => exact ⟨0, by omega, rfl, lensTo_zero _, Below.refl _ w⟩
    case round =>
      obtain ⟨k, hk, rfl, hS, hbw⟩ := hrel
      by_cases hlt : k < xs.length
      · obtain ⟨ad, rfl, hA⟩ := hc k hlt
        have hA2 : wr.cell? (ad.add k) = some (.string ⟨(xs[k]).toArray⟩) := (hbw.cell (World.block_lt_of_cell? _ _ hA)).trans hA
        clear hc hA
        have hsz : (⟨(xs[k]).toArray⟩ : ByteArray).size = xs[k].length := by simp [ByteArray.size]
        by_cases hr : xs[k].length ≤ 120
        · have HS : Hid (lensTo xs (k + 1)) := lensTo_step hS hlt hr
          clear hS hz
          generalize xs[k] = x at *
          go_wp2
          go_roundw
          case rel => exact ⟨k + 1, by omega, by go_num, HS.out, hbw⟩
          case measure => simp [intOf]; omega
        · have HL : Hid (Pt.short xs = false) := short_not hlt (by omega)
          have hz1 := hz _ (List.getElem_mem hlt)
          clear hS hz
          generalize xs[k] = x at *
          go_wp2
          go_ret
          exact ⟨ret_bool HL.out.symm, hbw⟩
      · have HL : Hid (Pt.short xs = true) := short_yes hS hlt (by omega)
        clear hc hS hz
        go_wp2
        go_ret
        exact ⟨ret_bool HL.out.symm, hbw⟩

end Go.Proofs.YthlhopdlkkeohaaGreatDoor.U
/- The walk of the document's Covers. -/
namespace Go.Proofs.YthlhopdlkkeohaaGreatDoor.O
open Go.RowKit

abbrev uO (u : U) : Obj := .cells #[.int .i64 u.1.1, .int .i64 u.1.2, .int .i64 u.2] 70
theorem OAt.newU (w : World) (k : Int) (pv : Value) (vk vn : Int) (vs : List UInt8) (n : Int) (sv : Value) (x : U) :
    OAt ((w.alloc (opO k pv vk vn vs n sv)).alloc (uO x)) w.heap.size k pv vk vn vs n sv ∧ CAt ((w.alloc (opO k pv vk vn vs n sv)).alloc (uO x)) ⟨w.heap.size + 1, 0, none⟩ x := by
  refine ⟨(OAt.new w k pv vk vn vs n sv).on (below_new _ _), ?_⟩
  have h := CAt.new (w.alloc (opO k pv vk vn vs n sv)) x
  have e : (w.alloc (opO k pv vk vn vs n sv)).heap.size = w.heap.size + 1 := by simp
  rw [e] at h
  exact h

def hasR (l : List U) (x : U) : Bool := decide (x ∈ l)
/-- None of so many is it. -/
def notTo (l : List U) (x : U) (k : Nat) : Prop := ¬ x ∈ l.take k
theorem notTo_zero (l : List U) (x : U) : notTo l x 0 := by simp [notTo]
theorem notTo_step {l : List U} {x : U} {k : Nat} (h : notTo l x k) (hk : k < l.length) (he : ¬ l[k] = x) : notTo l x (k + 1) := by
  unfold notTo at *
  rw [List.take_succ_eq_append_getElem hk, List.mem_append, List.mem_singleton]
  rintro (q | q)
  · exact h q
  · exact he q.symm
theorem notTo_end {l : List U} {x : U} {k : Nat} (h : notTo l x k) (hk : ¬ k < l.length) : hasR l x = false := by
  unfold notTo at h
  rw [List.take_of_length_le (by omega)] at h
  exact decide_eq_false h

set_option maxRecDepth 20000 in
set_option maxHeartbeats 4000000 in
theorem refCovers_any (k : Int) (pv : Value) (vk vn : Int) (vs : List UInt8) (n : Int) (sv : Value) (l : List U) (x : U) (w : World) (hll : l.length ≤ 1000000) (hs : refsIn w sv l) :
    Calls Tryz.prog 68 #[opV k pv vk vn vs n sv, uV x] w fun e w' => e = .returned (.bool (hasR l x)) ∧ Below w.heap.size w w' := by
  obtain ⟨bo, cs, rfl, _, _, hc⟩ := hs
  have HC : Hid (∀ k (h : k < l.length), ∃ ad, bo = some ad ∧ CAt w (ad.add (k * 3)) l[k]) := hc
  clear hc
  obtain ⟨m, hm⟩ : ∃ m, m = l.length := ⟨_, rfl⟩
  have HM : Hid (m = l.length) := hm
  rw [← hm] at hll ⊢
  clear hm
  have B0 := below_new2 w (opO k pv vk vn vs n (.slice bo m cs)) (uO x)
  have O0 := OAt.newU w k pv vk vn vs n (.slice bo m cs) x
  obtain ⟨W0, hW0⟩ : ∃ W0, W0 = ((w.alloc (opO k pv vk vn vs n (.slice bo m cs))).alloc (uO x)) := ⟨_, rfl⟩
  rw [← hW0] at B0 O0
  go_enter Tryz.func68, Tryz.ntmps68
  go_wp2
  rw [← hW0]
  clear hW0
  go_loopw [5] (fun i wr => ∃ j : Nat, j ≤ m ∧ i = .int .i64 j ∧ Hid (notTo l x j) ∧ Below W0.heap.size W0 wr) (fun i _ => m - (intOf i).toNat)
  case atStart => exact ⟨0, by omega, rfl, by have h := notTo_zero l x; exact h, Below.refl _ _⟩
  case round =>
    obtain ⟨j, hj, rfl, HS, hbw⟩ := hrel
    obtain ⟨c0, c1, c2, c3, c4, c5, c6⟩ := O0.1.on hbw
    obtain ⟨d0, d1, d2⟩ := O0.2.on hbw
    by_cases hlt : j < m
    · have hj1 : j < l.length := by have := HM.out; omega
      obtain ⟨ad, rfl, hA⟩ := HC.out j hj1
      obtain ⟨hA1, hA2, hA3⟩ := hA.on (bchain B0 hbw)
      have hi0 : (0 : Int) ≤ (j : Int) := by omega
      have hi1 : (j : Int) < (m : Int) := by omega
      clear hA
      have hE := eql_cnt l[j] x
      by_cases he : l[j] = x
      · have HL : Hid (hasR l x = true) := by
          have h : hasR l x = true := decide_eq_true (by rw [← he]; exact List.getElem_mem hj1)
          exact h
        simp only [he, decide_true] at hE
        rw [he] at hA1 hA2 hA3
        go_wp2
        go_region
        all_goals
          go_wp2
          go_ret
          exact ⟨ret_bool HL.out.symm, bchain B0 hbw.drew⟩
      · have HS' : Hid (notTo l x (j + 1)) := by have h := notTo_step HS.out hj1 he; exact h
        simp only [he, decide_false] at hE
        generalize l[j] = y at *
        clear HS
        go_wp2
        go_region
        all_goals
          go_wp2
          go_roundw
          case rel => exact ⟨j + 1, by omega, by go_num, HS', hbw.drew⟩
          case measure => simp [intOf]; omega
    · have HL : Hid (hasR l x = false) := by
        have h := notTo_end HS.out (by have := HM.out; omega)
        exact h
      go_wp2
      go_ret
      exact ⟨ret_bool HL.out.symm, bchain B0 hbw⟩

end Go.Proofs.YthlhopdlkkeohaaGreatDoor.O
/- Addresses and loads, operation by operation, wherever the thing lies. -/
namespace Go.Proofs.YthlhopdlkkeohaaGreatDoor.O
open Go.RowKit
section
variable {o : Oper} {a : Act} {w : World} {x y : Operand} {p : Addr} {ad : Addr} {n c k : Nat}
theorem ex_f_dot_0 (ho : o.op = .fieldAddr 53 x 0) (hx : a.eval x = .pointer (some p)) (w : World) : (execOp a.eval o).run Tryz.prog w = .ok (.value (.pointer (some p))) w := by
  unfold execOp
  simp only [ho, hx, Sem.run_bind]
  go_simp
theorem ex_f_ref_0 (ho : o.op = .fieldAddr 70 x 0) (hx : a.eval x = .pointer (some p)) (w : World) : (execOp a.eval o).run Tryz.prog w = .ok (.value (.pointer (some p))) w := by
  unfold execOp
  simp only [ho, hx, Sem.run_bind]
  go_simp
theorem ex_f_undo_0 (ho : o.op = .fieldAddr 147 x 0) (hx : a.eval x = .pointer (some p)) (w : World) : (execOp a.eval o).run Tryz.prog w = .ok (.value (.pointer (some p))) w := by
  unfold execOp
  simp only [ho, hx, Sem.run_bind]
  go_simp
theorem ex_f_op_0 (ho : o.op = .fieldAddr 65 x 0) (hx : a.eval x = .pointer (some p)) (w : World) : (execOp a.eval o).run Tryz.prog w = .ok (.value (.pointer (some p))) w := by
  unfold execOp
  simp only [ho, hx, Sem.run_bind]
  go_simp
theorem ex_f_op_1 (ho : o.op = .fieldAddr 65 x 1) (hx : a.eval x = .pointer (some p)) (w : World) : (execOp a.eval o).run Tryz.prog w = .ok (.value (.pointer (some ⟨p.block, p.off + 1, none⟩))) w := by
  unfold execOp
  simp only [ho, hx, Sem.run_bind]
  go_simp
theorem ex_f_txn_0 (ho : o.op = .fieldAddr 56 x 0) (hx : a.eval x = .pointer (some p)) (w : World) : (execOp a.eval o).run Tryz.prog w = .ok (.value (.pointer (some p))) w := by
  unfold execOp
  simp only [ho, hx, Sem.run_bind]
  go_simp
theorem ex_f_txn_2 (ho : o.op = .fieldAddr 56 x 2) (hx : a.eval x = .pointer (some p)) (w : World) : (execOp a.eval o).run Tryz.prog w = .ok (.value (.pointer (some ⟨p.block, p.off + 3, none⟩))) w := by
  unfold execOp
  simp only [ho, hx, Sem.run_bind]
  go_simp
theorem ex_f_txn_4 (ho : o.op = .fieldAddr 56 x 4) (hx : a.eval x = .pointer (some p)) (w : World) : (execOp a.eval o).run Tryz.prog w = .ok (.value (.pointer (some ⟨p.block, p.off + 5, none⟩))) w := by
  unfold execOp
  simp only [ho, hx, Sem.run_bind]
  go_simp
theorem ex_f_item_0 (ho : o.op = .fieldAddr 76 x 0) (hx : a.eval x = .pointer (some p)) (w : World) : (execOp a.eval o).run Tryz.prog w = .ok (.value (.pointer (some p))) w := by
  unfold execOp
  simp only [ho, hx, Sem.run_bind]
  go_simp
theorem ex_f_item_1 (ho : o.op = .fieldAddr 76 x 1) (hx : a.eval x = .pointer (some p)) (w : World) : (execOp a.eval o).run Tryz.prog w = .ok (.value (.pointer (some ⟨p.block, p.off + 3, none⟩))) w := by
  unfold execOp
  simp only [ho, hx, Sem.run_bind]
  go_simp
theorem ex_f_ritem_0 (ho : o.op = .fieldAddr 78 x 0) (hx : a.eval x = .pointer (some p)) (w : World) : (execOp a.eval o).run Tryz.prog w = .ok (.value (.pointer (some p))) w := by
  unfold execOp
  simp only [ho, hx, Sem.run_bind]
  go_simp
theorem ex_i_txns (ho : o.op = .indexAddr 22 x y) (hx : a.eval x = .slice (some ad) n c) (hy : a.eval y = .int .i64 (k : Int)) (hk : k < n) (w : World) : (execOp a.eval o).run Tryz.prog w = .ok (.value (.pointer (some (ad.add (k * 6))))) w := by
  have h0 : (0 : Int) ≤ (k : Int) := by omega
  have h1 : (k : Int) < (n : Int) := by omega
  unfold execOp
  simp only [ho, hx, hy, Sem.run_bind]
  go_simp
theorem ex_i_ops (ho : o.op = .indexAddr 54 x y) (hx : a.eval x = .slice (some ad) n c) (hy : a.eval y = .int .i64 (k : Int)) (hk : k < n) (w : World) : (execOp a.eval o).run Tryz.prog w = .ok (.value (.pointer (some (ad.add (k * 7))))) w := by
  have h0 : (0 : Int) ≤ (k : Int) := by omega
  have h1 : (k : Int) < (n : Int) := by omega
  unfold execOp
  simp only [ho, hx, hy, Sem.run_bind]
  go_simp
theorem ex_i_items (ho : o.op = .indexAddr 28 x y) (hx : a.eval x = .slice (some ad) n c) (hy : a.eval y = .int .i64 (k : Int)) (hk : k < n) (w : World) : (execOp a.eval o).run Tryz.prog w = .ok (.value (.pointer (some (ad.add (k * 11))))) w := by
  have h0 : (0 : Int) ≤ (k : Int) := by omega
  have h1 : (k : Int) < (n : Int) := by omega
  unfold execOp
  simp only [ho, hx, hy, Sem.run_bind]
  go_simp
theorem ex_l1_int {v : Value} (ho : o.op = .load 3 x) (hx : a.eval x = .pointer (some p)) (h : w.cell? p = some v) : (execOp a.eval o).run Tryz.prog w = .ok (.value v) w := by
  unfold execOp
  simp only [ho, hx, Sem.run_bind]
  go_simp
theorem ex_l1_bool {v : Value} (ho : o.op = .load 4 x) (hx : a.eval x = .pointer (some p)) (h : w.cell? p = some v) : (execOp a.eval o).run Tryz.prog w = .ok (.value v) w := by
  unfold execOp
  simp only [ho, hx, Sem.run_bind]
  go_simp
theorem ex_l1_strs {v : Value} (ho : o.op = .load 24 x) (hx : a.eval x = .pointer (some p)) (h : w.cell? p = some v) : (execOp a.eval o).run Tryz.prog w = .ok (.value v) w := by
  unfold execOp
  simp only [ho, hx, Sem.run_bind]
  go_simp
theorem ex_l1_refs {v : Value} (ho : o.op = .load 63 x) (hx : a.eval x = .pointer (some p)) (h : w.cell? p = some v) : (execOp a.eval o).run Tryz.prog w = .ok (.value v) w := by
  unfold execOp
  simp only [ho, hx, Sem.run_bind]
  go_simp
theorem ex_l1_ops {v : Value} (ho : o.op = .load 54 x) (hx : a.eval x = .pointer (some p)) (h : w.cell? p = some v) : (execOp a.eval o).run Tryz.prog w = .ok (.value v) w := by
  unfold execOp
  simp only [ho, hx, Sem.run_bind]
  go_simp
theorem ex_l1_txns {v : Value} (ho : o.op = .load 22 x) (hx : a.eval x = .pointer (some p)) (h : w.cell? p = some v) : (execOp a.eval o).run Tryz.prog w = .ok (.value v) w := by
  unfold execOp
  simp only [ho, hx, Sem.run_bind]
  go_simp
theorem ex_l1_undos {v : Value} (ho : o.op = .load 23 x) (hx : a.eval x = .pointer (some p)) (h : w.cell? p = some v) : (execOp a.eval o).run Tryz.prog w = .ok (.value v) w := by
  unfold execOp
  simp only [ho, hx, Sem.run_bind]
  go_simp
theorem ex_l_dot {v0 v1 : Value} (ho : o.op = .load 53 x) (hx : a.eval x = .pointer (some p)) (h0 : w.cell? p = some v0) (h1 : w.cell? ⟨p.block, p.off + 1, none⟩ = some v1) : (execOp a.eval o).run Tryz.prog w = .ok (.value (.agg #[v0, v1])) w := by
  unfold execOp
  simp only [ho, hx, Sem.run_bind]
  go_simp
theorem ex_l_ref {v0 v1 v2 : Value} (ho : o.op = .load 70 x) (hx : a.eval x = .pointer (some p)) (h0 : w.cell? p = some v0) (h1 : w.cell? ⟨p.block, p.off + 1, none⟩ = some v1) (h2 : w.cell? ⟨p.block, p.off + 2, none⟩ = some v2) : (execOp a.eval o).run Tryz.prog w = .ok (.value (.agg #[v0, v1, v2])) w := by
  unfold execOp
  simp only [ho, hx, Sem.run_bind]
  go_simp
theorem ex_l_op {v0 v1 v2 v3 v4 v5 v6 : Value} (ho : o.op = .load 65 x) (hx : a.eval x = .pointer (some p)) (h0 : w.cell? p = some v0) (h1 : w.cell? ⟨p.block, p.off + 1, none⟩ = some v1) (h2 : w.cell? ⟨p.block, p.off + 2, none⟩ = some v2) (h3 : w.cell? ⟨p.block, p.off + 3, none⟩ = some v3) (h4 : w.cell? ⟨p.block, p.off + 4, none⟩ = some v4) (h5 : w.cell? ⟨p.block, p.off + 5, none⟩ = some v5) (h6 : w.cell? ⟨p.block, p.off + 6, none⟩ = some v6) : (execOp a.eval o).run Tryz.prog w = .ok (.value (.agg #[v0, v1, v2, v3, v4, v5, v6])) w := by
  unfold execOp
  simp only [ho, hx, Sem.run_bind]
  go_simp
end
end Go.Proofs.YthlhopdlkkeohaaGreatDoor.O
/- What clear does to a row of transactions, and to one of items. -/
namespace Go.Proofs.YthlhopdlkkeohaaGreatDoor.O
open Go.RowKit

abbrev tzero : Array Value := #[.int .i64 0, .int .i64 0, .int .i64 0, .int .i64 0, .bool false, .slice none 0 0]
theorem tclears {w : World} {g : Nat} {cur : List TE} (h : OwnR w g tcell 6 cur) (i n : Nat) (hi : i < n) (hn : cur.length = n) (c : Nat) (ty : TypeId) : (Builtin.clear_ #[22] ty #[.slice (some ⟨g, i * 6, none⟩) (n - i) c]).run Tryz.prog w = .ok (.tuple #[]) (w.setCells g (i * 6) (Builtin.zeroCells tzero (n - i)).toList) := by
  have hst := OwnR.clears (P := Tryz.prog) (m := 6) tzero rfl (Nat.succ_pos 5) (by decide) h i (n - i) (by omega)
  obtain ⟨m, hm⟩ : ∃ m, n - i = m + 1 := ⟨n - i - 1, by omega⟩
  rw [hm] at hst ⊢
  simp [Builtin.clear_, run_underlying Tryz.underlying22, hst, Value.cells, Result.andThen]
abbrev izero : Array Value := #[.int .i64 0, .int .i64 0, .int .i64 0, .int .i64 0, .slice none 0 0, .int .i64 0, .int .i64 0, .string ⟨#[]⟩, .int .i64 0, .slice none 0 0, .int .i64 0]
theorem iclears {w : World} {g : Nat} {cur : List IE} (h : OwnR w g icell 11 cur) (i n : Nat) (hi : i < n) (hn : cur.length = n) (c : Nat) (ty : TypeId) : (Builtin.clear_ #[28] ty #[.slice (some ⟨g, i * 11, none⟩) (n - i) c]).run Tryz.prog w = .ok (.tuple #[]) (w.setCells g (i * 11) (Builtin.zeroCells izero (n - i)).toList) := by
  have hst := OwnR.clears (P := Tryz.prog) (m := 11) izero rfl (Nat.succ_pos 10) (by decide) h i (n - i) (by omega)
  obtain ⟨m, hm⟩ : ∃ m, n - i = m + 1 := ⟨n - i - 1, by omega⟩
  rw [hm] at hst ⊢
  simp [Builtin.clear_, run_underlying Tryz.underlying28, hst, Value.cells, Result.andThen]
end Go.Proofs.YthlhopdlkkeohaaGreatDoor.O
