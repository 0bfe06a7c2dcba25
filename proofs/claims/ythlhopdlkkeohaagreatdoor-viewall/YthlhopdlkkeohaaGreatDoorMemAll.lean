/- Slices of references: how one lies in memory; rows that a call owns · Loads of references, operation by operation · The walks of the two 'Right' and the two 'Clean' · The walk of name.isQuoted. -/
import Derived.Test.YthlhopdlkkeohaaGreatDoorOpsAll
import Derived.Test.YthlhopdlkkeohaaGreatDoorCompDAll
import Derived.Test.YthlhopdlkkeohaaGreatDoorRunesAll
import Derived.Laws.AppendOwn
import Derived.Laws.AppendOwnNone
import Derived.OwnWalk
import Derived.Test.YthlhopdlkkeohaaGreatDoorChars
/- Slices of references: how one lies in memory; rows that a call owns. -/
namespace Go.Proofs.YthlhopdlkkeohaaGreatDoor.O
open Go.RowKit

abbrev dV (d : D) : Value := .agg #[.int .i64 d.1, .int .i64 d.2]
abbrev uV (u : U) : Value := .agg #[.int .i64 u.1.1, .int .i64 u.1.2, .int .i64 u.2]
theorem keep_cell {W w1 : World} {a : Addr} {v : Value} (hb : Below W.heap.size W w1) (h : W.cell? a = some v) : w1.cell? a = some v := (hb.cell (World.block_lt_of_cell? W a h)).trans h
/-- Two dots, two counts, held against one another whole. -/
theorem equal_dot (w : World) (x y : D) : (Op.equalIn 10000 53 (dV x) (dV y)).run Tryz.prog w = .ok (decide (x = y)) w := by
  obtain ⟨a, b⟩ := x
  obtain ⟨a', b'⟩ := y
  have u3 := Tryz.underlying3
  have a3 := Tryz.isAgg3
  have z3 := Tryz.sizeOf3
  have hS : Tryz.prog.underlying 53 = some (.struct (Tryz.prog.fieldsOf 53)) := by kernel_rfl
  have hp : Tryz.prog.stoodInHeld 53 = false := by kernel_rfl
  rw [show (10000 : Nat) = 9999 + 1 from rfl, run_equalIn_agg w 9999 53 _ _ hS hp]
  simp only [Program.fieldsOf, Tryz.underlying53]
  go_simp
  by_cases h1 : a = a' <;> by_cases h2 : b = b' <;> simp [h1, h2]
theorem eql_dot (x y : D) (w : World) : (binOp .eql 53 (dV x) (dV y)).run Tryz.prog w = .ok (.bool (decide (x = y))) w := by
  rw [run_eql_struct, equal_dot w x y]
  rfl
theorem equal_cnt (w : World) (x y : U) : (Op.equalIn 10000 70 (uV x) (uV y)).run Tryz.prog w = .ok (decide (x = y)) w := by
  obtain ⟨⟨a, b⟩, c⟩ := x
  obtain ⟨⟨a', b'⟩, c'⟩ := y
  have u3 := Tryz.underlying3
  have a3 := Tryz.isAgg3
  have z3 := Tryz.sizeOf3
  have hS : Tryz.prog.underlying 70 = some (.struct (Tryz.prog.fieldsOf 70)) := by kernel_rfl
  have hp : Tryz.prog.stoodInHeld 70 = false := by kernel_rfl
  rw [show (10000 : Nat) = 9999 + 1 from rfl, run_equalIn_agg w 9999 70 _ _ hS hp]
  simp only [Program.fieldsOf, Tryz.underlying70]
  go_simp
  by_cases h1 : a = a' <;> by_cases h2 : b = b' <;> by_cases h3 : c = c' <;> simp [h1, h2, h3]
theorem eql_cnt (x y : U) (w : World) : (binOp .eql 70 (uV x) (uV y)).run Tryz.prog w = .ok (.bool (decide (x = y))) w := by
  rw [run_eql_struct, equal_cnt w x y]
  rfl
theorem neq_cnt (x y : U) (w : World) : (binOp .neq 70 (uV x) (uV y)).run Tryz.prog w = .ok (.bool (!decide (x = y))) w := by
  rw [run_neq_struct, equal_cnt w x y]
  rfl

/-- At this place there is this count. -/
def CAt (w : World) (p : Addr) (u : U) : Prop := w.cell? p = some (.int .i64 u.1.1) ∧ w.cell? ⟨p.block, p.off + 1, none⟩ = some (.int .i64 u.1.2) ∧ w.cell? ⟨p.block, p.off + 2, none⟩ = some (.int .i64 u.2)
theorem CAt.on {w w' : World} {p : Addr} {u : U} (h : CAt w p u) (hb : Below w.heap.size w w') : CAt w' p u := ⟨keep_cell hb h.1, keep_cell hb h.2.1, keep_cell hb h.2.2⟩
theorem CAt.new (w : World) (u : U) : CAt (w.alloc (.cells #[.int .i64 u.1.1, .int .i64 u.1.2, .int .i64 u.2] 70)) ⟨w.heap.size, 0, none⟩ u := ⟨by simp, by simp, by simp⟩
/-- At this place there is this dot. -/
def DAt (w : World) (b : Nat) (d : D) : Prop := w.cell? ⟨b, 0, none⟩ = some (.int .i64 d.1) ∧ w.cell? ⟨b, 1, none⟩ = some (.int .i64 d.2)
theorem DAt.on {w w' : World} {b : Nat} {d : D} (h : DAt w b d) (hb : Below w.heap.size w w') : DAt w' b d := ⟨keep_cell hb h.1, keep_cell hb h.2⟩
theorem DAt.new (w : World) (d : D) : DAt (w.alloc (.cells #[.int .i64 d.1, .int .i64 d.2] 53)) w.heap.size d := ⟨by simp, by simp⟩

/-- A slice reads as these counts. -/
def refsIn (w : World) (v : Value) (l : List U) : Prop :=
  ∃ ao cap, v = .slice ao l.length cap ∧ l.length ≤ cap ∧ (ao = none → cap = 0) ∧ ∀ k (h : k < l.length), ∃ ad, ao = some ad ∧ CAt w (ad.add (k * 3)) l[k]
theorem refsIn_nil (w : World) : refsIn w (.slice none 0 0) [] := ⟨none, 0, rfl, by simp, fun _ => rfl, fun k h => by simp at h⟩
theorem refsIn_none (w : World) (a : Addr) (cap : Nat) : refsIn w (.slice (some a) 0 cap) [] := ⟨some a, cap, rfl, by simp, fun h => by simp at h, fun k h => by simp at h⟩
theorem refsIn.on {w w' : World} {v : Value} {l : List U} (h : refsIn w v l) (hb : Below w.heap.size w w') : refsIn w' v l := by
  obtain ⟨ao, cap, hv, hm, h0, hc⟩ := h
  refine ⟨ao, cap, hv, hm, h0, fun k hk => ?_⟩
  obtain ⟨ad, h1, h2⟩ := hc k hk
  exact ⟨ad, h1, h2.on hb⟩
theorem refsIn.len {w : World} {ao : Option Addr} {n cap : Nat} {l : List U} (h : refsIn w (.slice ao n cap) l) : n = l.length := by
  obtain ⟨_, _, e, _⟩ := h
  cases e
  rfl
/-- Counts as cells. -/
def ucells (l : List U) : List Value := l.flatMap fun u => [.int .i64 u.1.1, .int .i64 u.1.2, .int .i64 u.2]
theorem ucells_nil : ucells [] = [] := rfl
theorem ucells_append (a b : List U) : ucells (a ++ b) = ucells a ++ ucells b := by simp [ucells]
theorem ucells_length : ∀ l : List U, (ucells l).length = l.length * 3
  | [] => rfl
  | u :: l => by have := ucells_length l; simp [ucells] at *; omega
theorem ucells_at : ∀ (l : List U) (k : Nat) (h : k < l.length), (ucells l)[k * 3]? = some (.int .i64 (l[k]).1.1) ∧ (ucells l)[k * 3 + 1]? = some (.int .i64 (l[k]).1.2) ∧ (ucells l)[k * 3 + 2]? = some (.int .i64 (l[k]).2)
  | u :: l, 0, _ => by simp [ucells]
  | u :: l, k + 1, h => by
    have := ucells_at l k (by simpa using h)
    have e : ucells (u :: l) = .int .i64 u.1.1 :: .int .i64 u.1.2 :: .int .i64 u.2 :: ucells l := rfl
    rw [e, show (k + 1) * 3 = k * 3 + 1 + 1 + 1 by omega]
    simpa using this
theorem ucells_one (l : List U) : ∀ u ∈ ucells l, u.oneCell' = true := by
  intro u hu
  simp only [ucells, List.mem_flatMap, List.mem_cons, List.not_mem_nil, or_false] at hu
  obtain ⟨d, _, rfl | rfl | rfl⟩ := hu <;> rfl
/-- What is at place j. -/
theorem ucells_get (l : List U) (j : Nat) (u : Value) (h : (ucells l)[j]? = some u) : ∃ k, ∃ hk : k < l.length, (j = k * 3 ∧ u = .int .i64 (l[k]).1.1) ∨ (j = k * 3 + 1 ∧ u = .int .i64 (l[k]).1.2) ∨ (j = k * 3 + 2 ∧ u = .int .i64 (l[k]).2) := by
  have hj : j < (ucells l).length := (List.getElem?_eq_some_iff.1 h).1
  rw [ucells_length] at hj
  refine ⟨j / 3, by omega, ?_⟩
  obtain ⟨h0, h1, h2⟩ := ucells_at l (j / 3) (by omega)
  have hm : j % 3 = 0 ∨ j % 3 = 1 ∨ j % 3 = 2 := by omega
  rcases hm with e | e | e
  · left
    have hj2 : j = j / 3 * 3 := by omega
    refine ⟨hj2, ?_⟩
    rw [← hj2, h] at h0
    exact Option.some.inj h0
  · right; left
    have hj2 : j = j / 3 * 3 + 1 := by omega
    refine ⟨hj2, ?_⟩
    rw [← hj2, h] at h1
    exact Option.some.inj h1
  · right; right
    have hj2 : j = j / 3 * 3 + 2 := by omega
    refine ⟨hj2, ?_⟩
    rw [← hj2, h] at h2
    exact Option.some.inj h2
theorem add_one (ad : Addr) (k : Nat) : ad.add (k * 3 + 1) = ⟨(ad.add (k * 3)).block, (ad.add (k * 3)).off + 1, none⟩ := by
  unfold Addr.add
  by_cases h : k = 0
  · subst h; simp
  · have : ¬ k * 3 = 0 := by omega
    rw [if_neg (by omega), if_neg this]
    simp; omega
theorem add_two (ad : Addr) (k : Nat) : ad.add (k * 3 + 2) = ⟨(ad.add (k * 3)).block, (ad.add (k * 3)).off + 2, none⟩ := by
  unfold Addr.add
  by_cases h : k = 0
  · subst h; simp
  · have : ¬ k * 3 = 0 := by omega
    rw [if_neg (by omega), if_neg this]
    simp; omega
theorem add_block (a : Addr) (k : Nat) : (a.add k).block = a.block := by unfold Addr.add; split <;> rfl
theorem add_add (a : Addr) (j k : Nat) : (a.add j).add k = a.add (j + k) := by
  unfold Addr.add
  by_cases h : k = 0
  · subst h; simp
  · by_cases h' : j = 0
    · subst h'; simp
    · rw [if_neg h, if_neg h', if_neg (by omega)]
      simp; omega
theorem refsIn.cells {w : World} {ad : Addr} {n cap : Nat} {l : List U} (h : refsIn w (.slice (some ad) n cap) l) : ∀ j u, (ucells l)[j]? = some u → w.cell? (ad.add j) = some u := by
  obtain ⟨ao, c, hv, _, _, hc⟩ := h
  intro j u hu
  cases hv
  obtain ⟨k, hk, ⟨rfl, rfl⟩ | ⟨rfl, rfl⟩ | ⟨rfl, rfl⟩⟩ := ucells_get l j u hu <;> obtain ⟨ad', e, h0, h1, h2⟩ := hc k hk <;> cases e
  · exact h0
  · rw [add_one]; exact h1
  · rw [add_two]; exact h2
theorem refsIn_of {w : World} {ad : Addr} {cap : Nat} {l : List U} (hm : l.length ≤ cap) (h : ∀ j u, (ucells l)[j]? = some u → w.cell? (ad.add j) = some u) : refsIn w (.slice (some ad) l.length cap) l := by
  refine ⟨some ad, cap, rfl, hm, fun e => by simp at e, fun k hk => ⟨ad, rfl, ?_, ?_, ?_⟩⟩
  · exact h _ _ (ucells_at l k hk).1
  · rw [← add_one]; exact h _ _ (ucells_at l k hk).2.1
  · rw [← add_two]; exact h _ _ (ucells_at l k hk).2.2
/-- All but the first one. -/
theorem refsIn.tail {w : World} {ad : Addr} {n cap : Nat} {u : U} {l : List U} (h : refsIn w (.slice (some ad) n cap) (u :: l)) : refsIn w (.slice (some (ad.add 3)) (n - 1) (cap - 1)) l := by
  obtain ⟨ao, c, hv, hm, _, hc⟩ := h
  cases hv
  refine ⟨some (ad.add 3), cap - 1, by simp, by simp at hm; omega, fun e => by simp at e, fun k hk => ⟨ad.add 3, rfl, ?_⟩⟩
  obtain ⟨ad', e, h0⟩ := hc (k + 1) (by simpa using hk)
  cases e
  rw [add_add, show 3 + k * 3 = (k + 1) * 3 by omega]
  exact h0
theorem refsIn.head {w : World} {ao : Option Addr} {n cap : Nat} {u : U} {l : List U} (h : refsIn w (.slice ao n cap) (u :: l)) : ∃ ad, ao = some ad ∧ CAt w ad u := by
  obtain ⟨ao', c, hv, hm, _, hc⟩ := h
  cases hv
  obtain ⟨ad, e, h0⟩ := hc 0 (by simp)
  exact ⟨ad, e, by simpa [Addr.add] using h0⟩
/-! ### Rows that a call owns -/
theorem info31 : ∃ i0, Tryz.prog.info? 70 = some i0 ∧ i0.zero = some (.agg #[.int .i64 0, .int .i64 0, .int .i64 0]) ∧ i0.size = 3 ∧ i0.bytes = 24 := info_parts (by kernel_rfl)
theorem own_grown {w wr w1 : World} {B s : Nat} {e : TypeId} {v : Value} {n : Nat} {xs : List Value} (hown : wr.ownsRow B e s v n xs) (hB : B ≤ wr.heap.size) (hbw : Below B w wr) (hgrow : wr.grownBy w1 v.ownBlock) : Below B w w1 :=
  hbw.grown hgrow (by omega) (fun k hk => (hown.lt k hk).1)
theorem own_on {w w' : World} {B s n : Nat} {e : TypeId} {v : Value} {xs : List Value} (h : w.ownsRow B e s v n xs) (hb : Below w.heap.size w w') : w'.ownsRow B e s v n xs := by
  refine ⟨h.1, ?_⟩
  rcases h.2 with hn | ⟨g, cap, cur, hv, hbg, hg, r⟩
  · exact Or.inl hn
  · exact Or.inr ⟨g, cap, cur, hv, hbg, (hb.block g (Array.getElem?_eq_some_iff.1 hg).1).trans hg, r⟩
theorem own_base {w : World} {b b' s n : Nat} {e : TypeId} {v : Value} {xs : List Value} (h : w.ownsRow b e s v n xs) (hb : b' ≤ b) : w.ownsRow b' e s v n xs := by
  refine ⟨h.1, ?_⟩
  rcases h.2 with hn | ⟨g, cap, cur, hv, hbg, r⟩
  · exact Or.inl hn
  · exact Or.inr ⟨g, cap, cur, hv, Nat.le_trans hb hbg, r⟩
theorem new_row (w : World) (u : U) : ∀ j v, (ucells [u])[j]? = some v → (w.alloc (.cells #[.int .i64 u.1.1, .int .i64 u.1.2, .int .i64 u.2] 70)).cell? ((⟨w.heap.size, 0, none⟩ : Addr).add j) = some v := by
  intro j v hv
  have e : (⟨w.heap.size, 0, none⟩ : Addr).add j = ⟨w.heap.size, j, none⟩ := by unfold Addr.add; split <;> simp_all
  rw [e, cell_of_row _ w.heap.size j _ 70 (0, 0) (heap_alloc_new w _)]
  simpa [ucells] using hv
/-- A row of one count. -/
theorem refsIn_one (w : World) (u : U) : refsIn (w.alloc (.cells #[.int .i64 u.1.1, .int .i64 u.1.2, .int .i64 u.2] 70)) (.slice (some ⟨w.heap.size, 0, none⟩) 1 1) [u] := refsIn_of (l := [u]) (by simp) (new_row w u)
theorem ret_bool {a b : Bool} (h : a = b) : (Ending.returned (.bool a)) = .returned (.bool b) := by rw [h]
theorem ret_int {a b : Int} (h : a = b) : (Ending.returned (.int .i64 a)) = .returned (.int .i64 b) := by rw [h]
end Go.Proofs.YthlhopdlkkeohaaGreatDoor.O
/- Loads of references, operation by operation. -/
namespace Go.Proofs.YthlhopdlkkeohaaGreatDoor.O
open Go.RowKit
section
variable {o : Oper} {a : Act} {w : World}
theorem exec_idx {x y : Operand} {ad : Addr} {n c k : Nat} (ho : o.op = .indexAddr 63 x y) (hx : a.eval x = .slice (some ad) n c) (hy : a.eval y = .int .i64 (k : Int)) (hk : k < n) (w : World) :
    (execOp a.eval o).run Tryz.prog w = .ok (.value (.pointer (some (ad.add (k * 3))))) w := by
  have h0 : (0 : Int) ≤ (k : Int) := by omega
  have h1 : (k : Int) < (n : Int) := by omega
  unfold execOp
  simp only [ho, hx, hy, Sem.run_bind]
  go_simp
theorem exec_fld0 {x : Operand} {p : Addr} (ho : o.op = .fieldAddr 70 x 0) (hx : a.eval x = .pointer (some p)) (w : World) :
    (execOp a.eval o).run Tryz.prog w = .ok (.value (.pointer (some p))) w := by
  unfold execOp
  simp only [ho, hx, Sem.run_bind]
  go_simp
theorem exec_ldU {x : Operand} {p : Addr} {u : U} (ho : o.op = .load 70 x) (hx : a.eval x = .pointer (some p)) (h : CAt w p u) :
    (execOp a.eval o).run Tryz.prog w = .ok (.value (uV u)) w := by
  obtain ⟨h0, h1, h2⟩ := h
  unfold execOp
  simp only [ho, hx, Sem.run_bind]
  go_simp
theorem exec_ldD {x : Operand} {p : Addr} {u : U} (ho : o.op = .load 53 x) (hx : a.eval x = .pointer (some p)) (h : CAt w p u) :
    (execOp a.eval o).run Tryz.prog w = .ok (.value (dV u.1)) w := by
  obtain ⟨h0, h1, h2⟩ := h
  unfold execOp
  simp only [ho, hx, Sem.run_bind]
  go_simp
end
end Go.Proofs.YthlhopdlkkeohaaGreatDoor.O
/- The walks of the two 'Right' and the two 'Clean'. -/
namespace Go.Proofs.YthlhopdlkkeohaaGreatDoor.U
open Go.RowKit

theorem runesF_le (n : Nat) : ∀ (l : List UInt8) (rs : List Nat), Nm.runesF n l = some rs → ∀ c ∈ rs, c ≤ 1114111 := by
  induction n with
  | zero =>
    intro l rs h
    simp [Nm.runesF] at h
    subst h
    simp
  | succ n ih =>
    intro l rs h
    by_cases hne : l = []
    · subst hne
      rw [Nm.runesF_nil] at h
      cases h
      simp
    · rw [Nm.runesF, if_neg hne] at h
      by_cases hb : Nm.isBad l = true
      · rw [if_pos hb] at h
        cases h
      · rw [if_neg hb] at h
        obtain ⟨r, hr, rfl⟩ := Option.map_eq_some_iff.1 h
        intro c hc
        rcases List.mem_cons.1 hc with rfl | hc
        · exact Lib.decodeL_rune l
        · exact ih _ r hr c hc
theorem runesL_le (l : List UInt8) (k : Nat) (h : k < (runesL l).length) : (runesL l)[k] ≤ 1114111 := by
  cases hr : Nm.runes l with
  | none =>
    have := (runesL_none hr).1
    rw [this] at h
    simp at h
  | some rs =>
    have e := (runesL_some hr).1
    have h2 := runesF_le _ l rs hr
    subst e
    exact h2 _ (List.getElem_mem h)
/-- What lies at a place of the call's own memory. -/
theorem own_slice {w : World} {B : Nat} {e : TypeId} {v : Value} {n : Nat} {xs : List Value} (h : w.ownsRow B e 1 v n xs) : ∃ ao cap, v = .slice ao n cap := by
  rcases h.2 with ⟨hv, h0⟩ | ⟨g, cap, cur, hv, _⟩
  · exact ⟨none, 0, by rw [hv, h0]⟩
  · exact ⟨_, _, hv⟩
theorem own_cell {w : World} {B : Nat} {e : TypeId} {ao : Option Addr} {n m cap k : Nat} {xs : List Value} {x : Value} (h : w.ownsRow B e 1 (.slice ao n cap) m xs) (hx : xs[k]? = some x) : ∃ g, ao = some ⟨g, 0, none⟩ ∧ w.cell? ⟨g, k, none⟩ = some x := by
  rcases h.2 with ⟨_, h0⟩ | ⟨g, cap', cur, hv, _⟩
  · have := h.1
    rw [h0] at this
    have h1 : xs = [] := List.eq_nil_of_length_eq_zero (by omega)
    rw [h1] at hx
    simp at hx
  · injection hv with e1 _ _
    subst e1
    refine ⟨g, rfl, ?_⟩
    have := h.cells rfl k x hx
    have hadd : (⟨g, 0, none⟩ : Addr).add k = ⟨g, k, none⟩ := by unfold Addr.add; split <;> simp_all
    rw [hadd] at this
    exact this
theorem cells64_at {l : List Nat} {k : Nat} (h : k < l.length) : (cells64 l)[k]? = some (.int .i64 (l[k] : Int)) := by simp [cells64, List.getElem?_eq_getElem h]
theorem cells32_at {l : List Nat} {k : Nat} (h : k < l.length) : (cells32 l)[k]? = some (.int .i32 (l[k] : Int)) := by simp [cells32, List.getElem?_eq_getElem h]
/-- Of the characters so many, from the first on, may stand in a name. -/
def mayTo (rs : List Nat) (k : Nat) : Prop := ∀ c ∈ rs.take k, Nm.may c = true
theorem mayTo_zero (rs : List Nat) : mayTo rs 0 := by intro c hc; simp at hc
theorem mayTo_step {rs : List Nat} {k : Nat} (h : mayTo rs k) (hk : k < rs.length) (hm : Nm.may rs[k] = true) : mayTo rs (k + 1) := by
  intro c hc
  rw [List.take_succ_eq_append_getElem hk] at hc
  rcases List.mem_append.1 hc with h1 | h1
  · exact h c h1
  · simp at h1
    subst h1
    exact hm
theorem isName_not {l : List UInt8} {k : Nat} (hk : k < (runesL l).length) (hm : Nm.may (runesL l)[k] = false) : Nm.isName l = false := by
  unfold Nm.isName
  cases hr : Nm.runes l with
  | none => rfl
  | some rs =>
    have e := (runesL_some hr).1
    have h1 : (rs.all Nm.may) = false := by
      rw [List.all_eq_false]
      subst e
      exact ⟨_, List.getElem_mem hk, by rw [hm]; simp⟩
    simp [h1]
theorem isName_all {l : List UInt8} {k : Nat} (hk : ¬ k < (runesL l).length) (hm : mayTo (runesL l) k) : Nm.isName l = (runesOk l && decide (1 ≤ (runesL l).length) && decide ((runesL l).length ≤ 24)) := by
  unfold Nm.isName
  cases hr : Nm.runes l with
  | none => simp [(runesL_none hr).2]
  | some rs =>
    obtain ⟨e1, e2⟩ := runesL_some hr
    rw [e2, e1]
    rw [e1] at hk hm
    have h1 : (rs.all Nm.may) = true := by
      rw [List.all_eq_true]
      intro c hc
      exact hm c (by rw [List.take_of_length_le (by omega)]; exact hc)
    simp [h1]

theorem runesF_len (n : Nat) : ∀ (l : List UInt8) (rs : List Nat), Nm.runesF n l = some rs → rs.length ≤ n := by
  induction n with
  | zero =>
    intro l rs h
    simp [Nm.runesF] at h
    subst h
    simp
  | succ n ih =>
    intro l rs h
    by_cases hne : l = []
    · subst hne
      rw [Nm.runesF_nil] at h
      cases h
      simp
    · rw [Nm.runesF, if_neg hne] at h
      by_cases hb : Nm.isBad l = true
      · rw [if_pos hb] at h
        cases h
      · rw [if_neg hb] at h
        obtain ⟨r, hr, rfl⟩ := Option.map_eq_some_iff.1 h
        have := ih _ r hr
        simp
        omega
theorem runesL_len (s : ByteArray) : (runesL s.data.toList).length ≤ s.size := by
  cases hr : Nm.runes s.data.toList with
  | none => rw [(runesL_none hr).1]; simp
  | some rs =>
    rw [(runesL_some hr).1, ← size_len]
    exact runesF_len _ _ rs hr

set_option maxRecDepth 20000 in
set_option maxHeartbeats 2000000 in
theorem refRight_any (s : ByteArray) (w : World) (hs : s.size ≤ 2000000) :
    Calls Tryz.prog 171 #[.string s] w fun e w' => e = .returned (.bool (Nm.right s.data.toList)) ∧ Below w.heap.size w w' := by
  have HN : Hid (Nm.right s.data.toList = Nm.isName s.data.toList) := Nm.right_isName _
  go_enter Tryz.func171, Tryz.ntmps171
  go_wp2_with (go_at_call 172; refine (refRunes_any s _ hs).mono ?_)
  rintro e W1 ⟨v, rfl, hown, hbw⟩
  have hle := runesL_le s.data.toList
  have hlen := runesL_len s
  have HX := @isName_not s.data.toList
  have HY := @isName_all s.data.toList
  generalize runesL s.data.toList = rs at *
  generalize runesOk s.data.toList = ok at *
  generalize Nm.isName s.data.toList = nm at *
  obtain ⟨ao, cap, rfl⟩ := own_slice hown
  have hrl : rs.length ≤ s.size := hlen
  go_wp2
  go_loop [5] (fun i => ∃ k : Nat, k ≤ rs.length ∧ i = .int .i64 k ∧ mayTo rs k) (fun i => rs.length - (intOf i).toNat)
  case atStart => exact ⟨0, by omega, rfl, mayTo_zero _⟩
  case round =>
    obtain ⟨k, hk, rfl, hm⟩ := hrel
    by_cases hlt : k < rs.length
    · obtain ⟨g, rfl, hcell⟩ := own_cell hown (cells64_at hlt)
      have hb := hle k hlt
      have HM := may_any rs[k]
      cases hmk : Nm.may rs[k] with
      | false =>
        rw [hmk] at HM
        have HL : Hid (Nm.right s.data.toList = false) := by
          have h := HN.out
          rw [HX hlt hmk] at h
          exact h
        clear HX HY HN
        generalize rs[k] = c at *
        go_wp2_with (first | (go_at_call 190; refine (HM _ (by omega)).mono ?_; rintro e W2 ⟨rfl, rfl⟩) | go_in)
        go_ret
        exact ⟨ret_bool HL.out.symm, hbw⟩
      | true =>
        rw [hmk] at HM
        have HS := mayTo_step hm hlt hmk
        clear HX HY HN
        generalize rs[k] = c at *
        go_wp2_with (first | (go_at_call 190; refine (HM _ (by omega)).mono ?_; rintro e W2 ⟨rfl, rfl⟩) | go_in)
        go_round
        case rel => exact ⟨k + 1, by omega, by go_num, HS⟩
        case measure => simp [intOf]; omega
    · have HL : Hid (Nm.right s.data.toList = (ok && decide (1 ≤ rs.length) && decide (rs.length ≤ 24))) := by
        have h := HN.out
        rw [HY hlt hm] at h
        exact h
      clear HX HY HN
      clear hle
      have hk' : k = rs.length := by omega
      cases ok with
      | false =>
        go_wp2
        go_ret
        exact ⟨ret_bool (by rw [HL.out]; rfl), hbw⟩
      | true =>
        by_cases h1 : rs.length = 0
        · rw [h1] at HL
          go_wp2
          go_ret
          exact ⟨ret_bool (by rw [HL.out]; rfl), hbw⟩
        · by_cases h2 : rs.length ≤ 24
          · have HL2 : Hid (Nm.right s.data.toList = true) := by
              have h := HL.out
              rw [decide_eq_true (by omega : 1 ≤ rs.length), decide_eq_true h2] at h
              exact h
            clear HL
            go_wp2
            go_ret
            exact ⟨ret_bool (by rw [HL2.out]; first | done | (simp; exact_mod_cast h2) | (simp; exact_mod_cast Nat.lt_of_not_le h2)), hbw⟩
          · have HL2 : Hid (Nm.right s.data.toList = false) := by
              have h := HL.out
              rw [decide_eq_true (by omega : 1 ≤ rs.length), decide_eq_false h2] at h
              exact h
            clear HL
            go_wp2
            go_ret
            exact ⟨ret_bool (by rw [HL2.out]; first | done | (simp; exact_mod_cast h2) | (simp; exact_mod_cast Nat.lt_of_not_le h2)), hbw⟩

/-! ### The two 'Clean' -/
/-- Where a walk stands: what was kept, how many characters, what is still to read. -/
def cleanAt (l : List UInt8) (pos k : Nat) (acc : List UInt8) : Prop := pos ≤ l.length ∧ k ≤ 24 ∧ acc.length ≤ pos ∧ (k = 0 ↔ acc = []) ∧ Nm.cgo 0 l = acc ++ Nm.cgo k (l.drop pos)
theorem cleanAt_zero (l : List UInt8) : cleanAt l 0 0 [] := ⟨by omega, by omega, by simp, by simp, by simp⟩
theorem ret_str {a b : ByteArray} (h : a = b) : Ending.returned (.string a) = .returned (.string b) := by rw [h]
theorem bytes_of {a : ByteArray} {l : List UInt8} (h : a.data.toList = l) : a = ⟨l.toArray⟩ := by
  subst h
  apply ByteArray.ext
  simp
theorem extract_list (s : ByteArray) (a b : Nat) : (s.extract a b).data.toList = (s.data.toList.drop a).take (b - a) := by
  simp [ByteArray.data_extract, Array.toList_extract, List.extract_eq_take_drop]

theorem slice_add (s : ByteArray) (a d : Nat) (h : a + d ≤ s.size) : ∀ wx, (Instr.slice 9 (.string s) (some (.int .i64 (a : Int))) (some (.int .i64 ((a : Int) + (d : Int)))) none).run Tryz.prog wx = .ok (.string (s.extract a (a + d))) wx := by
  intro wx
  have h1 := run_slice_string (P := Tryz.prog) wx 9 s .i64 .i64 (a : Int) ((a : Int) + (d : Int)) Tryz.underlying9 (by omega) (by omega) (by omega)
  rw [h1]
  congr 2

end Go.Proofs.YthlhopdlkkeohaaGreatDoor.U
/- The walk of name.isQuoted. -/
namespace Go.Proofs.YthlhopdlkkeohaaGreatDoor.U
open Go.RowKit

set_option maxRecDepth 20000 in
theorem isQuoted_any (c : Nat) (w : World) (hc : c ≤ 2147483647) :
    Calls Tryz.prog 127 #[.int .i32 c] w fun e w' => e = .returned (.bool (isQN c)) ∧ w' = w := by
  by_cases h1 : c = 47
  · subst h1
    go_enter Tryz.func127, Tryz.ntmps127
    go_wp2
    go_ret
    exact ⟨rfl, rfl⟩
  · by_cases h2 : c = 92
    · subst h2
      go_enter Tryz.func127, Tryz.ntmps127
      go_wp2
      go_ret
      exact ⟨rfl, rfl⟩
    · have HM : Hid (isQN c = false) := by
        have h : isQN c = false := by simp [isQN, h1, h2]
        exact h
      go_enter Tryz.func127, Tryz.ntmps127
      go_wp2
      go_ret
      exact ⟨ret_bool (by rw [HM.out]; first | done | (simp; omega)), rfl⟩


end Go.Proofs.YthlhopdlkkeohaaGreatDoor.U
