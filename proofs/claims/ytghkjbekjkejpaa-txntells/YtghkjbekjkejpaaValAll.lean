/- A value in memory; the walks of inside, holding, Fold, Unfold, and of the document's Fold · A region that draws its order, walked operation by operation: what yields in every world that meets the region's condition is taken first, whatever the order; a call by its contract. -/
import Derived.Test.YtghkjbekjkejpaaUtfAll
import Derived.Test.YtghkjbekjkejpaaRunesAll
import Derived.Test.YtghkjbekjkejpaaNumberAll
/- A value in memory; the walks of inside, holding, Fold, Unfold, and of the document's Fold. -/
namespace Go.Proofs.Ytghkjbekjkejpaa
open Go.RowKit

/-- A value. -/
abbrev valV (k n : Int) (l : List UInt8) : Value := .agg #[.int .i64 k, .int .i64 n, .string ⟨l.toArray⟩]
abbrev valO (k n : Int) (l : List UInt8) : Obj := .cells #[.int .i64 k, .int .i64 n, .string ⟨l.toArray⟩] 44
/-- What is in a value. -/
def inV : Vl.In → Value
  | .int n => .iface 3 (.int .i64 n)
  | .str l => .iface 9 (.string ⟨l.toArray⟩)
  | .bool b => .iface 4 (.bool b)

theorem as3_3 (W : World) (v : Value) : (Instr.typeAssert (.iface 3 v) 20 3 true).run Try.prog W = .ok (.tuple #[v, .bool true]) W := by kernel_rfl
theorem as3_9 (W : World) (v : Value) : (Instr.typeAssert (.iface 3 v) 20 9 true).run Try.prog W = .ok (.tuple #[.string ⟨#[]⟩, .bool false]) W := by kernel_rfl
theorem as9_3 (W : World) (v : Value) : (Instr.typeAssert (.iface 9 v) 20 3 true).run Try.prog W = .ok (.tuple #[.int .i64 0, .bool false]) W := by kernel_rfl
theorem as9_9 (W : World) (v : Value) : (Instr.typeAssert (.iface 9 v) 20 9 true).run Try.prog W = .ok (.tuple #[v, .bool true]) W := by kernel_rfl
theorem as4_3 (W : World) (v : Value) : (Instr.typeAssert (.iface 4 v) 20 3 true).run Try.prog W = .ok (.tuple #[.int .i64 0, .bool false]) W := by kernel_rfl
theorem as4_9 (W : World) (v : Value) : (Instr.typeAssert (.iface 4 v) 20 9 true).run Try.prog W = .ok (.tuple #[.string ⟨#[]⟩, .bool false]) W := by kernel_rfl
theorem as4_4 (W : World) (v : Value) : (Instr.typeAssert (.iface 4 v) 20 4 false).run Try.prog W = .ok v W := by kernel_rfl

/-- A value in a variable. -/
structure VAt (w : World) (b : Nat) (k n : Int) (l : List UInt8) : Prop where
  c0 : w.cell? ⟨b, 0, none⟩ = some (.int .i64 k)
  c1 : w.cell? ⟨b, 1, none⟩ = some (.int .i64 n)
  c2 : w.cell? ⟨b, 2, none⟩ = some (.string ⟨l.toArray⟩)
  f0 : w.frozen? ⟨b, 0, none⟩ = false
  f1 : w.frozen? ⟨b, 1, none⟩ = false
  f2 : w.frozen? ⟨b, 2, none⟩ = false
theorem VAt.new (w : World) (k n : Int) (l : List UInt8) : VAt (w.alloc (valO k n l)) w.heap.size k n l := ⟨by simp, by simp, by simp, by simp, by simp, by simp⟩
theorem VAt.lt {w : World} {b : Nat} {k n : Int} {l : List UInt8} (h : VAt w b k n l) : b < w.heap.size := World.block_lt_of_cell? w ⟨b, 0, none⟩ h.c0
theorem VAt.blk {w w' : World} {b : Nat} {k n : Int} {l : List UInt8} (h : VAt w b k n l) (hb : w'.heap[b]? = w.heap[b]?) : VAt w' b k n l :=
  ⟨(World.cell?_of_block (w := w) hb).trans h.c0, (World.cell?_of_block (w := w) hb).trans h.c1, (World.cell?_of_block (w := w) hb).trans h.c2, (World.frozen?_of_block (w := w) hb).trans h.f0, (World.frozen?_of_block (w := w) hb).trans h.f1, (World.frozen?_of_block (w := w) hb).trans h.f2⟩
theorem VAt.on {w w' : World} {b : Nat} {k n : Int} {l : List UInt8} (h : VAt w b k n l) (hb : Below w.heap.size w w') : VAt w' b k n l := h.blk (hb.block b h.lt)
theorem VAt.but {w w' : World} {b g : Nat} {k n : Int} {l : List UInt8} (h : VAt w b k n l) (hb : But g w w') (hg : b ≠ g) : VAt w' b k n l := h.blk (hb.block b h.lt hg)
theorem VAt.drew {w : World} {b : Nat} {k n : Int} {l : List UInt8} (h : VAt w b k n l) : VAt w.drew b k n l := h.blk rfl
theorem VAt.setOther {w : World} {b : Nat} {k n : Int} {l : List UInt8} (h : VAt w b k n l) {p : Addr} (hp : p.block ≠ b) (v : Value) : VAt (w.setCell p v) b k n l := h.blk (Below.heap_setCell w p v b (Ne.symm hp))
theorem cell_frozen {w : World} {p q : Addr} {v : Value} : (w.setCell p v).frozen? q = w.frozen? q := by simp
theorem VAt.set {w : World} {b : Nat} {k n : Int} {l : List UInt8} (h : VAt w b k n l) (k' n' : Int) (l' : List UInt8) : VAt (((w.setCell ⟨b, 0, none⟩ (.int .i64 k')).setCell ⟨b, 1, none⟩ (.int .i64 n')).setCell ⟨b, 2, none⟩ (.string ⟨l'.toArray⟩)) b k' n' l' := by
  refine ⟨?_, ?_, ?_, by simp [h.f0], by simp [h.f1], by simp [h.f2]⟩
  · exact (World.cell?_setCell_other _ _ _ _ (by simp)).trans ((World.cell?_setCell_other _ _ _ _ (by simp)).trans (World.cell?_setCell_same _ _ _ h.c0))
  · exact (World.cell?_setCell_other _ _ _ _ (by simp)).trans (World.cell?_setCell_same _ _ _ ((World.cell?_setCell_other _ _ _ _ (by simp)).trans h.c1))
  · exact World.cell?_setCell_same _ _ _ ((World.cell?_setCell_other _ _ _ _ (by simp)).trans ((World.cell?_setCell_other _ _ _ _ (by simp)).trans h.c2))
theorem VAt.setN {w : World} {b : Nat} {k n : Int} {l : List UInt8} (h : VAt w b k n l) (n' : Int) : VAt (w.setCell ⟨b, 1, none⟩ (.int .i64 n')) b k n' l :=
  ⟨(World.cell?_setCell_other _ _ _ _ (by simp)).trans h.c0, World.cell?_setCell_same _ _ _ h.c1, (World.cell?_setCell_other _ _ _ _ (by simp)).trans h.c2, by simp [h.f0], by simp [h.f1], by simp [h.f2]⟩
theorem VAt.setS {w : World} {b : Nat} {k n : Int} {l : List UInt8} (h : VAt w b k n l) (l' : List UInt8) : VAt (w.setCell ⟨b, 2, none⟩ (.string ⟨l'.toArray⟩)) b k n l' :=
  ⟨(World.cell?_setCell_other _ _ _ _ (by simp)).trans h.c0, (World.cell?_setCell_other _ _ _ _ (by simp)).trans h.c1, World.cell?_setCell_same _ _ _ h.c2, by simp [h.f0], by simp [h.f1], by simp [h.f2]⟩
theorem below_set3 {A w : World} {b : Nat} (h : Below A.heap.size A w) (hb : A.heap.size ≤ b) (x y z : Value) : Below A.heap.size A (((w.setCell ⟨b, 0, none⟩ x).setCell ⟨b, 1, none⟩ y).setCell ⟨b, 2, none⟩ z) := ((h.setCell hb _).setCell hb _).setCell hb _

set_option maxRecDepth 20000 in
theorem inside_any (k n : Int) (l : List UInt8) (w : World) : Calls Try.prog 87 #[valV k n l] w fun e w' => e = .returned (inV (Vl.inside k n l)) ∧ Below w.heap.size w w' := by
  by_cases h1 : k = 1
  · subst h1
    go_enter Try.func87, Try.ntmps87
    go_wp2
    go_ret
    exact ⟨rfl, below_new _ _⟩
  · have e1 : (k == 1) = false := beq_eq_false_iff_ne.2 h1
    by_cases h2 : k = 2
    · subst h2
      go_enter Try.func87, Try.ntmps87
      go_wp2
      go_ret
      exact ⟨rfl, below_new _ _⟩
    · have e2 : (k == 2) = false := beq_eq_false_iff_ne.2 h2
      rw [show Vl.inside k n l = .bool (n == 1) by unfold Vl.inside; rw [if_neg h1, if_neg h2]]
      clear h1 h2
      go_enter Try.func87, Try.ntmps87
      go_wp2
      go_ret
      exact ⟨rfl, below_new _ _⟩

set_option maxRecDepth 20000 in
theorem holding_any (x : Vl.In) (w : World) : Calls Try.prog 100 #[inV x] w fun e w' => e = .returned (valV x.k x.n x.s) ∧ Below w.heap.size w w' := by
  cases x with
  | int n =>
    have A := as3_3
    show Calls Try.prog 100 #[.iface 3 (.int .i64 n)] w fun e w' => e = .returned (valV 1 n []) ∧ Below w.heap.size w w'
    go_enter Try.func100, Try.ntmps100
    go_wp2
    exact bodyPost_ret (v := valV 1 n []) (by simp [results, Try.results100, go_sem]) rfl ⟨rfl, below_new w _⟩
  | str l =>
    have A := as9_3
    have B := as9_9
    show Calls Try.prog 100 #[.iface 9 (.string ⟨l.toArray⟩)] w fun e w' => e = .returned (valV 2 0 l) ∧ Below w.heap.size w w'
    go_enter Try.func100, Try.ntmps100
    go_wp2
    exact bodyPost_ret (v := valV 2 0 l) (by simp [results, Try.results100, go_sem]) rfl ⟨rfl, below_new w _⟩
  | bool b =>
    have A := as4_3
    have B := as4_9
    have C := as4_4
    cases b with
    | true =>
      show Calls Try.prog 100 #[.iface 4 (.bool true)] w fun e w' => e = .returned (valV 3 1 []) ∧ Below w.heap.size w w'
      go_enter Try.func100, Try.ntmps100
      go_wp2
      exact bodyPost_ret (v := valV 3 1 []) (by simp [results, Try.results100, go_sem]) rfl ⟨rfl, below_new2 w _ _⟩
    | false =>
      show Calls Try.prog 100 #[.iface 4 (.bool false)] w fun e w' => e = .returned (valV 3 0 []) ∧ Below w.heap.size w w'
      go_enter Try.func100, Try.ntmps100
      go_wp2
      exact bodyPost_ret (v := valV 3 0 []) (by simp [results, Try.results100, go_sem]) rfl ⟨rfl, below_new2 w _ _⟩

set_option maxRecDepth 20000 in
theorem fold_any (n : Int) (w : World) (h1 : -2147483648 ≤ n) (h2 : n ≤ 2147483647) : Calls Try.prog 65 #[.int .i64 n] w fun e w' => e = .returned (.int .i64 (Vl.fold n)) ∧ w' = w := by
  by_cases h : n < 0
  · rw [show Vl.fold n = -2 * n - 1 by unfold Vl.fold; rw [if_pos h]]
    go_enter Try.func65, Try.ntmps65
    go_wp2
    go_ret
    exact ⟨by go_num, rfl⟩
  · rw [show Vl.fold n = 2 * n by unfold Vl.fold; rw [if_neg h]]
    go_enter Try.func65, Try.ntmps65
    go_wp2
    go_ret
    exact ⟨by go_num, rfl⟩
set_option maxRecDepth 20000 in
theorem refFold_any (n : Int) (w : World) (h1 : -2147483648 ≤ n) (h2 : n ≤ 2147483647) : Calls Try.prog 69 #[.int .i64 n] w fun e w' => e = .returned (.int .i64 (Vl.fold n)) ∧ w' = w := by
  by_cases h : n < 0
  · rw [show Vl.fold n = -2 * n - 1 by unfold Vl.fold; rw [if_pos h]]
    go_enter Try.func69, Try.ntmps69
    go_wp2
    go_ret
    exact ⟨by go_num, rfl⟩
  · rw [show Vl.fold n = 2 * n by unfold Vl.fold; rw [if_neg h]]
    go_enter Try.func69, Try.ntmps69
    go_wp2
    go_ret
    exact ⟨by go_num, rfl⟩
end Go.Proofs.Ytghkjbekjkejpaa
/- A region that draws its order, walked operation by operation: what yields in every world that meets the region's condition is taken first, whatever the order; a call by its contract. -/
namespace Go.Proofs.Ytghkjbekjkejpaa
open Go.RowKit

section
variable {P : Program} {md : Region.Mode} {ops : Array Oper} {Q : Exit → Act → World → Prop} {S : World → Prop} {i : Nat} {o : Oper} {v : Value} {fuel : Nat} {listed : Array Bool} {a : Act} {w : World}

theorem held_take (ho : ops[i]? = some o) (hs : Region.noSelect ops = true) (hf : Region.free md ops listed i = true) (hr : (Region.ready md ops listed).contains i = true)
    (hQ : ∀ c a w, Q (.panic c) (a.put o.dst v) w → Q (.panic c) a w) (hw : Region.wanted o (yielded ops a.tmps) = true) (he : ∀ w, S w → (execOp a.eval o).run P w = .ok (.value v) w) (hS : S w)
    (h : wpAnyH P md ops Q S fuel (listed.setIfInBounds i true) (a.put o.dst v) w) : wpAnyH P md ops Q S (fuel + 1) listed a w :=
  wpAnyH_take ho hs hf hr hQ (Or.inl ⟨hw, he⟩) hS h
theorem held_skip (ho : ops[i]? = some o) (hs : Region.noSelect ops = true) (hf : Region.free md ops listed i = true) (hr : (Region.ready md ops listed).contains i = true)
    (hQ : ∀ c a w, Q (.panic c) (a.put o.dst undef) w → Q (.panic c) a w) (hw : Region.wanted o (yielded ops a.tmps) = false) (hS : S w)
    (h : wpAnyH P md ops Q S fuel (listed.setIfInBounds i true) (a.put o.dst undef) w) : wpAnyH P md ops Q S (fuel + 1) listed a w :=
  wpAnyH_take ho hs hf hr hQ (Or.inr ⟨hw, rfl⟩) hS h
theorem held_do (ho : ops[i]? = some o) (hr : Region.ready md ops listed = [i]) (hw : Region.wanted o (yielded ops a.tmps) = true) (he : (execOp a.eval o).run P w = .ok (.value v) w) (hS : S w)
    (h : wpAnyH P md ops Q S fuel (listed.setIfInBounds i true) (a.put o.dst v) w) : wpAnyH P md ops Q S (fuel + 1) listed a w :=
  wpAnyH_ready hr (by simp) (AllReadyH.cons ho (fun K hK => by
    rw [if_pos hw, Oper.wp, he]
    exact hK.out _ _ hS (fun _ => h)) AllReadyH.nil)
theorem held_call {F : FuncId} {vs : Array Value} (ho : ops[i]? = some o) (hr : Region.ready md ops listed = [i]) (hw : Region.wanted o (yielded ops a.tmps) = true)
    (he : ∀ w, (execOp a.eval o).run P w = .ok (.enter F vs) w) (hc : ∀ w, Calls P F vs w fun e w' => e = .returned v ∧ Below w.heap.size w w') (hS : ∀ w', Below w.heap.size w w' → S w')
    (h : ∀ w', S w' → wpAnyH P md ops Q S fuel (listed.setIfInBounds i true) (a.put o.dst v) w') : wpAnyH P md ops Q S (fuel + 1) listed a w :=
  wpAnyH_ready hr (by simp) (AllReadyH.cons ho (fun K hK => by
    rw [if_pos hw, Oper.wp, he]
    refine (hc w).mono ?_
    rintro e w' ⟨rfl, hb⟩
    exact hK.out _ _ (hS w' hb) (fun hs => h w' hs)) AllReadyH.nil)
theorem list_take {rest : List Oper} (hw : Region.wanted o (yielded ops a.tmps) = true) (he : (execOp a.eval o).run P w = .ok (.value v) w) (h : wpList P ops Q rest (a.put o.dst v) w) : wpList P ops Q (o :: rest) a w :=
  wpList_step fun K hK => by
    rw [if_pos hw, Oper.wp, he]
    exact hK _ _ h
theorem list_call {F : FuncId} {vs : Array Value} {rest : List Oper} (hw : Region.wanted o (yielded ops a.tmps) = true) (he : ∀ w, (execOp a.eval o).run P w = .ok (.enter F vs) w)
    (hc : ∀ w, Calls P F vs w fun e w' => e = .returned v ∧ Below w.heap.size w w') (h : ∀ w', Below w.heap.size w w' → wpList P ops Q rest (a.put o.dst v) w') : wpList P ops Q (o :: rest) a w :=
  wpList_step fun K hK => by
    rw [if_pos hw, Oper.wp, he]
    refine (hc w).mono ?_
    rintro e w' ⟨rfl, hb⟩
    exact hK _ _ (h w' hb)
theorem exec_bin {op : BinOp} {t t' : TypeId} {x y : Operand} {X Y V : Value} (ho : o.op = .binOp op t x y t') (hx : a.eval x = X) (hy : a.eval y = Y) (hg : ∀ w, (eqGuard op t x y X Y).run P w = .ok () w) (hb : ∀ w, (binOp op t X Y).run P w = .ok V w) (w : World) :
    (execOp a.eval o).run P w = .ok (.value V) w := by
  unfold execOp
  simp only [ho, hx, hy, Sem.run_bind, hg, hb, Result.andThen_ok, Sem.run_pure]
theorem exec_un {op : UnOp} {t : TypeId} {x : Operand} {X V : Value} (ho : o.op = .unOp op t x) (hx : a.eval x = X) (hb : ∀ w, (Op.unary op X).run P w = .ok V w) (w : World) :
    (execOp a.eval o).run P w = .ok (.value V) w := by
  unfold execOp
  simp only [ho, hx, Sem.run_bind, hb, Result.andThen_ok, Sem.run_pure]
theorem exec_int {x : Operand} {b k : Nat} {n : Int} {w : World} (ho : o.op = .load 3 x) (hx : a.eval x = .pointer (some ⟨b, k, none⟩)) (h0 : w.cell? ⟨b, k, none⟩ = some (.int .i64 n)) :
    (execOp a.eval o).run Try.prog w = .ok (.value (.int .i64 n)) w := by
  unfold execOp
  simp only [ho, hx, Sem.run_bind]
  go_simp
end
section
variable {P : Program} {md : Region.Mode} {ops : Array Oper} {Q : Exit → Act → World → Prop} {S : World → Prop} {i j : Nat} {o o' : Oper} {v v' : Value} {fuel : Nat} {listed : Array Bool} {a : Act} {w : World}
theorem held_pair (ho : ops[i]? = some o) (ho' : ops[j]? = some o') (hr : Region.ready md ops listed = [i, j]) (hri : Region.ready md ops (listed.setIfInBounds i true) = [j]) (hrj : Region.ready md ops (listed.setIfInBounds j true) = [i])
    (hw : Region.wanted o (yielded ops a.tmps) = true) (hw' : Region.wanted o' (yielded ops a.tmps) = true) (hw1 : Region.wanted o' (yielded ops (a.put o.dst v).tmps) = true) (hw2 : Region.wanted o (yielded ops (a.put o'.dst v').tmps) = true)
    (he : (execOp a.eval o).run P w = .ok (.value v) w) (he' : (execOp a.eval o').run P w = .ok (.value v') w) (he1 : (execOp (a.put o.dst v).eval o').run P w = .ok (.value v') w) (he2 : (execOp (a.put o'.dst v').eval o).run P w = .ok (.value v) w)
    (hl : (listed.setIfInBounds j true).setIfInBounds i true = (listed.setIfInBounds i true).setIfInBounds j true) (ha : (a.put o'.dst v').put o.dst v = (a.put o.dst v).put o'.dst v') (hS : S w)
    (h : wpAnyH P md ops Q S fuel ((listed.setIfInBounds i true).setIfInBounds j true) ((a.put o.dst v).put o'.dst v') w) : wpAnyH P md ops Q S (fuel + 1 + 1) listed a w :=
  wpAnyH_ready hr (by simp) (AllReadyH.cons ho (fun K hK => by
    rw [if_pos hw, Oper.wp, he]
    exact hK.out _ _ hS (fun _ => held_do ho' hri hw1 he1 hS h)) (AllReadyH.cons ho' (fun K hK => by
    rw [if_pos hw', Oper.wp, he']
    exact hK.out _ _ hS (fun _ => held_do ho hrj hw2 he2 hS (by rw [hl, ha]; exact h))) AllReadyH.nil))
/-- A call, whatever it hands back. -/
theorem held_callX {F : FuncId} {vs : Array Value} {R : Ending → World → Prop} (ho : ops[i]? = some o) (hr : Region.ready md ops listed = [i]) (hw : Region.wanted o (yielded ops a.tmps) = true)
    (he : ∀ w, (execOp a.eval o).run P w = .ok (.enter F vs) w) (hc : Calls P F vs w R) (h : ∀ e w', R e w' → ∃ v, e = .returned v ∧ S w' ∧ wpAnyH P md ops Q S fuel (listed.setIfInBounds i true) (a.put o.dst v) w') :
    wpAnyH P md ops Q S (fuel + 1) listed a w :=
  wpAnyH_ready hr (by simp) (AllReadyH.cons ho (fun K hK => by
    rw [if_pos hw, Oper.wp, he]
    refine hc.mono ?_
    intro e w' hR
    obtain ⟨v, rfl, hs, hk⟩ := h e w' hR
    exact hK.out _ _ hs (fun _ => hk)) AllReadyH.nil)
end
section
variable {o : Oper} {a : Act} {w : World}
theorem exec_ldV {x : Operand} {b : Nat} {k n : Int} {l : List UInt8} (ho : o.op = .load 44 x) (hx : a.eval x = .pointer (some ⟨b, 0, none⟩)) (h : VAt w b k n l) :
    (execOp a.eval o).run Try.prog w = .ok (.value (valV k n l)) w := by
  obtain ⟨h0, h1, h2, _, _, _⟩ := h
  unfold execOp
  simp only [ho, hx, Sem.run_bind]
  go_simp
theorem exec_fld {x : Operand} {b i : Nat} (hi : i < 3) (ho : o.op = .fieldAddr 44 x i) (hx : a.eval x = .pointer (some ⟨b, 0, none⟩)) (w : World) :
    (execOp a.eval o).run Try.prog w = .ok (.value (.pointer (some ⟨b, i, none⟩))) w := by
  unfold execOp
  match i, hi with
  | 0, _ =>
    simp only [ho, hx, Sem.run_bind]
    go_simp
  | 1, _ =>
    simp only [ho, hx, Sem.run_bind]
    go_simp
  | 2, _ =>
    simp only [ho, hx, Sem.run_bind]
    go_simp
theorem exec_ld0 {x : Operand} {b : Nat} {k n : Int} {l : List UInt8} (ho : o.op = .load 3 x) (hx : a.eval x = .pointer (some ⟨b, 0, none⟩)) (h : VAt w b k n l) :
    (execOp a.eval o).run Try.prog w = .ok (.value (.int .i64 k)) w := exec_int ho hx h.c0
theorem exec_ld1 {x : Operand} {b : Nat} {k n : Int} {l : List UInt8} (ho : o.op = .load 3 x) (hx : a.eval x = .pointer (some ⟨b, 1, none⟩)) (h : VAt w b k n l) :
    (execOp a.eval o).run Try.prog w = .ok (.value (.int .i64 n)) w := exec_int ho hx h.c1
theorem exec_ld2 {x : Operand} {b : Nat} {k n : Int} {l : List UInt8} (ho : o.op = .load 9 x) (hx : a.eval x = .pointer (some ⟨b, 2, none⟩)) (h : VAt w b k n l) :
    (execOp a.eval o).run Try.prog w = .ok (.value (.string ⟨l.toArray⟩)) w := by
  have h2 := h.c2
  unfold execOp
  simp only [ho, hx, Sem.run_bind]
  go_simp
end
theorem eqb_same (x : Bool) (w : World) : (binOp .eql 4 (.bool x) (.bool x)).run Try.prog w = .ok (.bool true) w := by go_simp
theorem eqi_same (x : Int) (w : World) : (binOp .eql 3 (.int .i64 x) (.int .i64 x)).run Try.prog w = .ok (.bool true) w := by go_simp
theorem eqs_same (x : ByteArray) (w : World) : (binOp .eql 9 (.string x) (.string x)).run Try.prog w = .ok (.bool true) w := by go_simp
theorem not_of (x : Bool) (w : World) : (Op.unary .not (.bool x)).run Try.prog w = .ok (.bool (!x)) w := by go_simp
theorem neqb_same (x : Bool) (w : World) : (binOp .neq 4 (.bool x) (.bool x)).run Try.prog w = .ok (.bool false) w := by go_simp
theorem neqi_same (x : Int) (w : World) : (binOp .neq 3 (.int .i64 x) (.int .i64 x)).run Try.prog w = .ok (.bool false) w := by go_simp
theorem bytes_inj {a b : List UInt8} : ((⟨a.toArray⟩ : ByteArray) = ⟨b.toArray⟩) ↔ a = b := by
  constructor
  · intro h; have := congrArg (fun x : ByteArray => x.data.toList) h; simpa using this
  · rintro rfl; rfl
theorem eql_val (k n : Int) (l : List UInt8) (k' n' : Int) (l' : List UInt8) (w : World) : (binOp .eql 44 (valV k n l) (valV k' n' l')).run Try.prog w = .ok (.bool (decide (k = k' ∧ n = n' ∧ l = l'))) w := by
  go_simp
  by_cases h1 : k = k' <;> by_cases h2 : n = n' <;> by_cases h3 : l = l' <;> simp [h1, h2, h3]
theorem eqs_val (a b : List UInt8) (w : World) : (binOp .eql 9 (.string ⟨a.toArray⟩) (.string ⟨b.toArray⟩)).run Try.prog w = .ok (.bool (decide (a = b))) w := by
  go_simp
  rw [Bool.eq_iff_iff]; simp
end Go.Proofs.Ytghkjbekjkejpaa
