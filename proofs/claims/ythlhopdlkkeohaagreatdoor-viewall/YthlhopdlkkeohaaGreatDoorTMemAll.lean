/- Slices of counts: how one lies in memory; rows that a call owns · The walks of Same: the document's, the program's (slices.Equal) · A region that draws its order, walked operation by operation: what yields in every world that meets the region's condition is taken first, whatever the order; a call by its contract. -/
import Derived.Test.YthlhopdlkkeohaaGreatDoorCnts
import Derived.Test.YthlhopdlkkeohaaGreatDoorCompDAll
import Derived.Laws.AppendOwn
import Derived.Laws.AppendOwnNone
import Derived.OwnWalk
/- Slices of counts: how one lies in memory; rows that a call owns. -/
namespace Go.Proofs.YthlhopdlkkeohaaGreatDoor.T
open Go.Proofs.YthlhopdlkkeohaaGreatDoor.D
open Go.RowKit

abbrev dV (d : D) : Value := .agg #[.int .i64 d.1, .int .i64 d.2]
abbrev uV (u : U) : Value := .agg #[.int .i64 u.1.1, .int .i64 u.1.2, .int .i64 u.2]
theorem keep_cell {W w1 : World} {a : Addr} {v : Value} (hb : Below W.heap.size W w1) (h : W.cell? a = some v) : w1.cell? a = some v := (hb.cell (World.block_lt_of_cell? W a h)).trans h
/-- Two dots, two counts, held against one another whole. -/
theorem equal_dot (w : World) (x y : D) : (Op.equalIn 10000 53 (dV x) (dV y)).run Tryz.prog w = .ok (decide (x = y)) w := by
  obtain ⟨a, b⟩ := x
  obtain ⟨a', b'⟩ := y
  have u3 := Tryz.underlying3
  have a3 := Tryz.isAgg3
  have z3 := Tryz.sizeOf3
  have hS : Tryz.prog.underlying 53 = some (.struct (Tryz.prog.fieldsOf 53)) := by kernel_rfl
  have hp : Tryz.prog.stoodInHeld 53 = false := by kernel_rfl
  rw [show (10000 : Nat) = 9999 + 1 from rfl, run_equalIn_agg w 9999 53 _ _ hS hp]
  simp only [Program.fieldsOf, Tryz.underlying53]
  go_simp
  by_cases h1 : a = a' <;> by_cases h2 : b = b' <;> simp [h1, h2]
theorem eql_dot (x y : D) (w : World) : (binOp .eql 53 (dV x) (dV y)).run Tryz.prog w = .ok (.bool (decide (x = y))) w := by
  rw [run_eql_struct, equal_dot w x y]
  rfl
theorem equal_cnt (w : World) (x y : U) : (Op.equalIn 10000 147 (uV x) (uV y)).run Tryz.prog w = .ok (decide (x = y)) w := by
  obtain ⟨⟨a, b⟩, c⟩ := x
  obtain ⟨⟨a', b'⟩, c'⟩ := y
  have u3 := Tryz.underlying3
  have a3 := Tryz.isAgg3
  have z3 := Tryz.sizeOf3
  have hS : Tryz.prog.underlying 147 = some (.struct (Tryz.prog.fieldsOf 147)) := by kernel_rfl
  have hp : Tryz.prog.stoodInHeld 147 = false := by kernel_rfl
  rw [show (10000 : Nat) = 9999 + 1 from rfl, run_equalIn_agg w 9999 147 _ _ hS hp]
  simp only [Program.fieldsOf, Tryz.underlying147]
  go_simp
  by_cases h1 : a = a' <;> by_cases h2 : b = b' <;> by_cases h3 : c = c' <;> simp [h1, h2, h3]
theorem eql_cnt (x y : U) (w : World) : (binOp .eql 147 (uV x) (uV y)).run Tryz.prog w = .ok (.bool (decide (x = y))) w := by
  rw [run_eql_struct, equal_cnt w x y]
  rfl
theorem neq_cnt (x y : U) (w : World) : (binOp .neq 147 (uV x) (uV y)).run Tryz.prog w = .ok (.bool (!decide (x = y))) w := by
  rw [run_neq_struct, equal_cnt w x y]
  rfl

/-- At this place there is this count. -/
def CAt (w : World) (p : Addr) (u : U) : Prop := w.cell? p = some (.int .i64 u.1.1) ∧ w.cell? ⟨p.block, p.off + 1, none⟩ = some (.int .i64 u.1.2) ∧ w.cell? ⟨p.block, p.off + 2, none⟩ = some (.int .i64 u.2)
theorem CAt.on {w w' : World} {p : Addr} {u : U} (h : CAt w p u) (hb : Below w.heap.size w w') : CAt w' p u := ⟨keep_cell hb h.1, keep_cell hb h.2.1, keep_cell hb h.2.2⟩
theorem CAt.new (w : World) (u : U) : CAt (w.alloc (.cells #[.int .i64 u.1.1, .int .i64 u.1.2, .int .i64 u.2] 147)) ⟨w.heap.size, 0, none⟩ u := ⟨by simp, by simp, by simp⟩
/-- At this place there is this dot. -/
def DAt (w : World) (b : Nat) (d : D) : Prop := w.cell? ⟨b, 0, none⟩ = some (.int .i64 d.1) ∧ w.cell? ⟨b, 1, none⟩ = some (.int .i64 d.2)
theorem DAt.on {w w' : World} {b : Nat} {d : D} (h : DAt w b d) (hb : Below w.heap.size w w') : DAt w' b d := ⟨keep_cell hb h.1, keep_cell hb h.2⟩
theorem DAt.new (w : World) (d : D) : DAt (w.alloc (.cells #[.int .i64 d.1, .int .i64 d.2] 53)) w.heap.size d := ⟨by simp, by simp⟩

/-- A slice reads as these counts. -/
def cntsIn (w : World) (v : Value) (l : List U) : Prop :=
  ∃ ao cap, v = .slice ao l.length cap ∧ l.length ≤ cap ∧ (ao = none → cap = 0) ∧ ∀ k (h : k < l.length), ∃ ad, ao = some ad ∧ CAt w (ad.add (k * 3)) l[k]
theorem cntsIn_nil (w : World) : cntsIn w (.slice none 0 0) [] := ⟨none, 0, rfl, by simp, fun _ => rfl, fun k h => by simp at h⟩
theorem cntsIn_none (w : World) (a : Addr) (cap : Nat) : cntsIn w (.slice (some a) 0 cap) [] := ⟨some a, cap, rfl, by simp, fun h => by simp at h, fun k h => by simp at h⟩
theorem cntsIn.on {w w' : World} {v : Value} {l : List U} (h : cntsIn w v l) (hb : Below w.heap.size w w') : cntsIn w' v l := by
  obtain ⟨ao, cap, hv, hm, h0, hc⟩ := h
  refine ⟨ao, cap, hv, hm, h0, fun k hk => ?_⟩
  obtain ⟨ad, h1, h2⟩ := hc k hk
  exact ⟨ad, h1, h2.on hb⟩
theorem cntsIn.len {w : World} {ao : Option Addr} {n cap : Nat} {l : List U} (h : cntsIn w (.slice ao n cap) l) : n = l.length := by
  obtain ⟨_, _, e, _⟩ := h
  cases e
  rfl
/-- Counts as cells. -/
def ucells (l : List U) : List Value := l.flatMap fun u => [.int .i64 u.1.1, .int .i64 u.1.2, .int .i64 u.2]
theorem ucells_nil : ucells [] = [] := rfl
theorem ucells_append (a b : List U) : ucells (a ++ b) = ucells a ++ ucells b := by simp [ucells]
theorem ucells_length : ∀ l : List U, (ucells l).length = l.length * 3
  | [] => rfl
  | u :: l => by have := ucells_length l; simp [ucells] at *; omega
theorem ucells_at : ∀ (l : List U) (k : Nat) (h : k < l.length), (ucells l)[k * 3]? = some (.int .i64 (l[k]).1.1) ∧ (ucells l)[k * 3 + 1]? = some (.int .i64 (l[k]).1.2) ∧ (ucells l)[k * 3 + 2]? = some (.int .i64 (l[k]).2)
  | u :: l, 0, _ => by simp [ucells]
  | u :: l, k + 1, h => by
    have := ucells_at l k (by simpa using h)
    have e : ucells (u :: l) = .int .i64 u.1.1 :: .int .i64 u.1.2 :: .int .i64 u.2 :: ucells l := rfl
    rw [e, show (k + 1) * 3 = k * 3 + 1 + 1 + 1 by omega]
    simpa using this
theorem ucells_one (l : List U) : ∀ u ∈ ucells l, u.oneCell' = true := by
  intro u hu
  simp only [ucells, List.mem_flatMap, List.mem_cons, List.not_mem_nil, or_false] at hu
  obtain ⟨d, _, rfl | rfl | rfl⟩ := hu <;> rfl
/-- What is at place j. -/
theorem ucells_get (l : List U) (j : Nat) (u : Value) (h : (ucells l)[j]? = some u) : ∃ k, ∃ hk : k < l.length, (j = k * 3 ∧ u = .int .i64 (l[k]).1.1) ∨ (j = k * 3 + 1 ∧ u = .int .i64 (l[k]).1.2) ∨ (j = k * 3 + 2 ∧ u = .int .i64 (l[k]).2) := by
  have hj : j < (ucells l).length := (List.getElem?_eq_some_iff.1 h).1
  rw [ucells_length] at hj
  refine ⟨j / 3, by omega, ?_⟩
  obtain ⟨h0, h1, h2⟩ := ucells_at l (j / 3) (by omega)
  have hm : j % 3 = 0 ∨ j % 3 = 1 ∨ j % 3 = 2 := by omega
  rcases hm with e | e | e
  · left
    have hj2 : j = j / 3 * 3 := by omega
    refine ⟨hj2, ?_⟩
    rw [← hj2, h] at h0
    exact Option.some.inj h0
  · right; left
    have hj2 : j = j / 3 * 3 + 1 := by omega
    refine ⟨hj2, ?_⟩
    rw [← hj2, h] at h1
    exact Option.some.inj h1
  · right; right
    have hj2 : j = j / 3 * 3 + 2 := by omega
    refine ⟨hj2, ?_⟩
    rw [← hj2, h] at h2
    exact Option.some.inj h2
theorem add_one (ad : Addr) (k : Nat) : ad.add (k * 3 + 1) = ⟨(ad.add (k * 3)).block, (ad.add (k * 3)).off + 1, none⟩ := by
  unfold Addr.add
  by_cases h : k = 0
  · subst h; simp
  · have : ¬ k * 3 = 0 := by omega
    rw [if_neg (by omega), if_neg this]
    simp; omega
theorem add_two (ad : Addr) (k : Nat) : ad.add (k * 3 + 2) = ⟨(ad.add (k * 3)).block, (ad.add (k * 3)).off + 2, none⟩ := by
  unfold Addr.add
  by_cases h : k = 0
  · subst h; simp
  · have : ¬ k * 3 = 0 := by omega
    rw [if_neg (by omega), if_neg this]
    simp; omega
theorem add_block (a : Addr) (k : Nat) : (a.add k).block = a.block := by unfold Addr.add; split <;> rfl
theorem add_add (a : Addr) (j k : Nat) : (a.add j).add k = a.add (j + k) := by
  unfold Addr.add
  by_cases h : k = 0
  · subst h; simp
  · by_cases h' : j = 0
    · subst h'; simp
    · rw [if_neg h, if_neg h', if_neg (by omega)]
      simp; omega
theorem cntsIn.cells {w : World} {ad : Addr} {n cap : Nat} {l : List U} (h : cntsIn w (.slice (some ad) n cap) l) : ∀ j u, (ucells l)[j]? = some u → w.cell? (ad.add j) = some u := by
  obtain ⟨ao, c, hv, _, _, hc⟩ := h
  intro j u hu
  cases hv
  obtain ⟨k, hk, ⟨rfl, rfl⟩ | ⟨rfl, rfl⟩ | ⟨rfl, rfl⟩⟩ := ucells_get l j u hu <;> obtain ⟨ad', e, h0, h1, h2⟩ := hc k hk <;> cases e
  · exact h0
  · rw [add_one]; exact h1
  · rw [add_two]; exact h2
theorem cntsIn_of {w : World} {ad : Addr} {cap : Nat} {l : List U} (hm : l.length ≤ cap) (h : ∀ j u, (ucells l)[j]? = some u → w.cell? (ad.add j) = some u) : cntsIn w (.slice (some ad) l.length cap) l := by
  refine ⟨some ad, cap, rfl, hm, fun e => by simp at e, fun k hk => ⟨ad, rfl, ?_, ?_, ?_⟩⟩
  · exact h _ _ (ucells_at l k hk).1
  · rw [← add_one]; exact h _ _ (ucells_at l k hk).2.1
  · rw [← add_two]; exact h _ _ (ucells_at l k hk).2.2
/-- All but the first one. -/
theorem cntsIn.tail {w : World} {ad : Addr} {n cap : Nat} {u : U} {l : List U} (h : cntsIn w (.slice (some ad) n cap) (u :: l)) : cntsIn w (.slice (some (ad.add 3)) (n - 1) (cap - 1)) l := by
  obtain ⟨ao, c, hv, hm, _, hc⟩ := h
  cases hv
  refine ⟨some (ad.add 3), cap - 1, by simp, by simp at hm; omega, fun e => by simp at e, fun k hk => ⟨ad.add 3, rfl, ?_⟩⟩
  obtain ⟨ad', e, h0⟩ := hc (k + 1) (by simpa using hk)
  cases e
  rw [add_add, show 3 + k * 3 = (k + 1) * 3 by omega]
  exact h0
theorem cntsIn.head {w : World} {ao : Option Addr} {n cap : Nat} {u : U} {l : List U} (h : cntsIn w (.slice ao n cap) (u :: l)) : ∃ ad, ao = some ad ∧ CAt w ad u := by
  obtain ⟨ao', c, hv, hm, _, hc⟩ := h
  cases hv
  obtain ⟨ad, e, h0⟩ := hc 0 (by simp)
  exact ⟨ad, e, by simpa [Addr.add] using h0⟩
/-! ### Rows that a call owns -/
theorem info26 : ∃ i0, Tryz.prog.info? 147 = some i0 ∧ i0.zero = some (.agg #[.int .i64 0, .int .i64 0, .int .i64 0]) ∧ i0.size = 3 ∧ i0.bytes = 24 := info_parts (by kernel_rfl)
theorem own_grown {w wr w1 : World} {B s : Nat} {e : TypeId} {v : Value} {n : Nat} {xs : List Value} (hown : wr.ownsRow B e s v n xs) (hB : B ≤ wr.heap.size) (hbw : Below B w wr) (hgrow : wr.grownBy w1 v.ownBlock) : Below B w w1 :=
  hbw.grown hgrow (by omega) (fun k hk => (hown.lt k hk).1)
theorem own_on {w w' : World} {B s n : Nat} {e : TypeId} {v : Value} {xs : List Value} (h : w.ownsRow B e s v n xs) (hb : Below w.heap.size w w') : w'.ownsRow B e s v n xs := by
  refine ⟨h.1, ?_⟩
  rcases h.2 with hn | ⟨g, cap, cur, hv, hbg, hg, r⟩
  · exact Or.inl hn
  · exact Or.inr ⟨g, cap, cur, hv, hbg, (hb.block g (Array.getElem?_eq_some_iff.1 hg).1).trans hg, r⟩
theorem own_base {w : World} {b b' s n : Nat} {e : TypeId} {v : Value} {xs : List Value} (h : w.ownsRow b e s v n xs) (hb : b' ≤ b) : w.ownsRow b' e s v n xs := by
  refine ⟨h.1, ?_⟩
  rcases h.2 with hn | ⟨g, cap, cur, hv, hbg, r⟩
  · exact Or.inl hn
  · exact Or.inr ⟨g, cap, cur, hv, Nat.le_trans hb hbg, r⟩
theorem new_row (w : World) (u : U) : ∀ j v, (ucells [u])[j]? = some v → (w.alloc (.cells #[.int .i64 u.1.1, .int .i64 u.1.2, .int .i64 u.2] 147)).cell? ((⟨w.heap.size, 0, none⟩ : Addr).add j) = some v := by
  intro j v hv
  have e : (⟨w.heap.size, 0, none⟩ : Addr).add j = ⟨w.heap.size, j, none⟩ := by unfold Addr.add; split <;> simp_all
  rw [e, cell_of_row _ w.heap.size j _ 147 (0, 0) (heap_alloc_new w _)]
  simpa [ucells] using hv
/-- A row of one count. -/
theorem cntsIn_one (w : World) (u : U) : cntsIn (w.alloc (.cells #[.int .i64 u.1.1, .int .i64 u.1.2, .int .i64 u.2] 147)) (.slice (some ⟨w.heap.size, 0, none⟩) 1 1) [u] := cntsIn_of (l := [u]) (by simp) (new_row w u)
theorem ret_bool {a b : Bool} (h : a = b) : (Ending.returned (.bool a)) = .returned (.bool b) := by rw [h]
theorem ret_int {a b : Int} (h : a = b) : (Ending.returned (.int .i64 a)) = .returned (.int .i64 b) := by rw [h]
end Go.Proofs.YthlhopdlkkeohaaGreatDoor.T
/- The walks of Same: the document's, the program's (slices.Equal). -/
namespace Go.Proofs.YthlhopdlkkeohaaGreatDoor.T
open Go.Proofs.YthlhopdlkkeohaaGreatDoor.D
open Go.RowKit

/-- So many of the counts are the same. -/
def sameTo (xs ys : List U) (k : Nat) : Prop := xs.take k = ys.take k
theorem sameTo_zero (xs ys : List U) : sameTo xs ys 0 := by simp [sameTo]
theorem sameTo_step {xs ys : List U} {k : Nat} (h : sameTo xs ys k) (h1 : k < xs.length) (h2 : k < ys.length) (he : xs[k] = ys[k]) : sameTo xs ys (k + 1) := by
  unfold sameTo at h ⊢
  rw [List.take_succ_eq_append_getElem h1, List.take_succ_eq_append_getElem h2, h, he]
theorem same_not {xs ys : List U} {k : Nat} (h1 : k < xs.length) (h2 : k < ys.length) (he : ¬ xs[k] = ys[k]) : decide (xs = ys) = false := by
  apply decide_eq_false
  intro e
  subst e
  exact he rfl
theorem same_all {xs ys : List U} {k : Nat} (h : sameTo xs ys k) (h1 : ¬ k < xs.length) (hl : xs.length = ys.length) : decide (xs = ys) = true := by
  apply decide_eq_true
  unfold sameTo at h
  rwa [List.take_of_length_le (by omega), List.take_of_length_le (by omega)] at h
theorem CAt.heap {w w' : World} {p : Addr} {u : U} (h : CAt w p u) (e : w'.heap = w.heap) : CAt w' p u := ⟨(World.cell?_of_block (by rw [e])).trans h.1, (World.cell?_of_block (by rw [e])).trans h.2.1, (World.cell?_of_block (by rw [e])).trans h.2.2⟩

end Go.Proofs.YthlhopdlkkeohaaGreatDoor.T
/- A region that draws its order, walked operation by operation: what yields in every world that meets the region's condition is taken first, whatever the order; a call by its contract. -/
namespace Go.Proofs.YthlhopdlkkeohaaGreatDoor.T
open Go.Proofs.YthlhopdlkkeohaaGreatDoor.D
open Go.RowKit

section
variable {P : Program} {md : Region.Mode} {ops : Array Oper} {Q : Exit → Act → World → Prop} {S : World → Prop} {i : Nat} {o : Oper} {v : Value} {fuel : Nat} {listed : Array Bool} {a : Act} {w : World}

theorem held_take (ho : ops[i]? = some o) (hs : Region.noSelect ops = true) (hf : Region.free md ops listed i = true) (hr : (Region.ready md ops listed).contains i = true)
    (hQ : ∀ c a w, Q (.panic c) (a.put o.dst v) w → Q (.panic c) a w) (hw : Region.wanted o (yielded ops a.tmps) = true) (he : ∀ w, S w → (execOp a.eval o).run P w = .ok (.value v) w) (hS : S w)
    (h : wpAnyH P md ops Q S fuel (listed.setIfInBounds i true) (a.put o.dst v) w) : wpAnyH P md ops Q S (fuel + 1) listed a w :=
  wpAnyH_take ho hs hf hr hQ (Or.inl ⟨hw, he⟩) hS h
theorem held_skip (ho : ops[i]? = some o) (hs : Region.noSelect ops = true) (hf : Region.free md ops listed i = true) (hr : (Region.ready md ops listed).contains i = true)
    (hQ : ∀ c a w, Q (.panic c) (a.put o.dst undef) w → Q (.panic c) a w) (hw : Region.wanted o (yielded ops a.tmps) = false) (hS : S w)
    (h : wpAnyH P md ops Q S fuel (listed.setIfInBounds i true) (a.put o.dst undef) w) : wpAnyH P md ops Q S (fuel + 1) listed a w :=
  wpAnyH_take ho hs hf hr hQ (Or.inr ⟨hw, rfl⟩) hS h
theorem held_do (ho : ops[i]? = some o) (hr : Region.ready md ops listed = [i]) (hw : Region.wanted o (yielded ops a.tmps) = true) (he : (execOp a.eval o).run P w = .ok (.value v) w) (hS : S w)
    (h : wpAnyH P md ops Q S fuel (listed.setIfInBounds i true) (a.put o.dst v) w) : wpAnyH P md ops Q S (fuel + 1) listed a w :=
  wpAnyH_ready hr (by simp) (AllReadyH.cons ho (fun K hK => by
    rw [if_pos hw, Oper.wp, he]
    exact hK.out _ _ hS (fun _ => h)) AllReadyH.nil)
theorem exec_bin {op : BinOp} {t t' : TypeId} {x y : Operand} {X Y V : Value} (ho : o.op = .binOp op t x y t') (hx : a.eval x = X) (hy : a.eval y = Y) (hg : ∀ w, (eqGuard op t x y X Y).run P w = .ok () w) (hb : ∀ w, (binOp op t X Y).run P w = .ok V w) (w : World) :
    (execOp a.eval o).run P w = .ok (.value V) w := by
  unfold execOp
  simp only [ho, hx, hy, Sem.run_bind, hg, hb, Result.andThen_ok, Sem.run_pure]
theorem exec_un {op : UnOp} {t : TypeId} {x : Operand} {X V : Value} (ho : o.op = .unOp op t x) (hx : a.eval x = X) (hb : ∀ w, (Op.unary op X).run P w = .ok V w) (w : World) :
    (execOp a.eval o).run P w = .ok (.value V) w := by
  unfold execOp
  simp only [ho, hx, Sem.run_bind, hb, Result.andThen_ok, Sem.run_pure]
end
section
variable {P : Program} {md : Region.Mode} {ops : Array Oper} {Q : Exit → Act → World → Prop} {S : World → Prop} {i j : Nat} {o o' : Oper} {v v' : Value} {fuel : Nat} {listed : Array Bool} {a : Act} {w : World}
/-- A call, whatever it hands back. -/
theorem held_callX {F : FuncId} {vs : Array Value} {R : Ending → World → Prop} (ho : ops[i]? = some o) (hr : Region.ready md ops listed = [i]) (hw : Region.wanted o (yielded ops a.tmps) = true)
    (he : ∀ w, (execOp a.eval o).run P w = .ok (.enter F vs) w) (hc : Calls P F vs w R) (h : ∀ e w', R e w' → ∃ v, e = .returned v ∧ S w' ∧ wpAnyH P md ops Q S fuel (listed.setIfInBounds i true) (a.put o.dst v) w') :
    wpAnyH P md ops Q S (fuel + 1) listed a w :=
  wpAnyH_ready hr (by simp) (AllReadyH.cons ho (fun K hK => by
    rw [if_pos hw, Oper.wp, he]
    refine hc.mono ?_
    intro e w' hR
    obtain ⟨v, rfl, hs, hk⟩ := h e w' hR
    exact hK.out _ _ hs (fun _ => hk)) AllReadyH.nil)
end
section
variable {o : Oper} {a : Act} {w : World}
theorem exec_idx {x y : Operand} {ad : Addr} {n c k : Nat} (ho : o.op = .indexAddr 23 x y) (hx : a.eval x = .slice (some ad) n c) (hy : a.eval y = .int .i64 (k : Int)) (hk : k < n) (w : World) :
    (execOp a.eval o).run Tryz.prog w = .ok (.value (.pointer (some (ad.add (k * 3))))) w := by
  have h0 : (0 : Int) ≤ (k : Int) := by omega
  have h1 : (k : Int) < (n : Int) := by omega
  unfold execOp
  simp only [ho, hx, hy, Sem.run_bind]
  go_simp
theorem exec_fld0 {x : Operand} {p : Addr} (ho : o.op = .fieldAddr 147 x 0) (hx : a.eval x = .pointer (some p)) (w : World) :
    (execOp a.eval o).run Tryz.prog w = .ok (.value (.pointer (some p))) w := by
  unfold execOp
  simp only [ho, hx, Sem.run_bind]
  go_simp
theorem exec_ldU {x : Operand} {p : Addr} {u : U} (ho : o.op = .load 147 x) (hx : a.eval x = .pointer (some p)) (h : CAt w p u) :
    (execOp a.eval o).run Tryz.prog w = .ok (.value (uV u)) w := by
  obtain ⟨h0, h1, h2⟩ := h
  unfold execOp
  simp only [ho, hx, Sem.run_bind]
  go_simp
theorem exec_ldD {x : Operand} {p : Addr} {u : U} (ho : o.op = .load 53 x) (hx : a.eval x = .pointer (some p)) (h : CAt w p u) :
    (execOp a.eval o).run Tryz.prog w = .ok (.value (dV u.1)) w := by
  obtain ⟨h0, h1, h2⟩ := h
  unfold execOp
  simp only [ho, hx, Sem.run_bind]
  go_simp
end
theorem eqb_same (x : Bool) (w : World) : (binOp .eql 4 (.bool x) (.bool x)).run Tryz.prog w = .ok (.bool true) w := by go_simp
theorem eqi_same (x : Int) (w : World) : (binOp .eql 3 (.int .i64 x) (.int .i64 x)).run Tryz.prog w = .ok (.bool true) w := by go_simp
theorem eqs_same (x : ByteArray) (w : World) : (binOp .eql 9 (.string x) (.string x)).run Tryz.prog w = .ok (.bool true) w := by go_simp
theorem not_of (x : Bool) (w : World) : (Op.unary .not (.bool x)).run Tryz.prog w = .ok (.bool (!x)) w := by go_simp
end Go.Proofs.YthlhopdlkkeohaaGreatDoor.T
