/- A region that draws its order, walked operation by operation: what yields in every world that meets the region's condition is taken first, whatever the order; a call by its contract. -/
import Derived.Test.YtmifkfeobdnocaaEach
namespace Go.Proofs.Ytmifkfeobdnocaa
open Go.RowKit

section
variable {P : Program} {md : Region.Mode} {ops : Array Oper} {Q : Exit → Act → World → Prop} {S : World → Prop} {i : Nat} {o : Oper} {v : Value} {fuel : Nat} {listed : Array Bool} {a : Act} {w : World}

theorem held_take (ho : ops[i]? = some o) (hs : Region.noSelect ops = true) (hf : Region.free md ops listed i = true) (hr : (Region.ready md ops listed).contains i = true)
    (hQ : ∀ c a w, Q (.panic c) (a.put o.dst v) w → Q (.panic c) a w) (hw : Region.wanted o (yielded ops a.tmps) = true) (he : ∀ w, S w → (execOp a.eval o).run P w = .ok (.value v) w) (hS : S w)
    (h : wpAnyH P md ops Q S fuel (listed.setIfInBounds i true) (a.put o.dst v) w) : wpAnyH P md ops Q S (fuel + 1) listed a w :=
  wpAnyH_take ho hs hf hr hQ (Or.inl ⟨hw, he⟩) hS h
theorem held_skip (ho : ops[i]? = some o) (hs : Region.noSelect ops = true) (hf : Region.free md ops listed i = true) (hr : (Region.ready md ops listed).contains i = true)
    (hQ : ∀ c a w, Q (.panic c) (a.put o.dst undef) w → Q (.panic c) a w) (hw : Region.wanted o (yielded ops a.tmps) = false) (hS : S w)
    (h : wpAnyH P md ops Q S fuel (listed.setIfInBounds i true) (a.put o.dst undef) w) : wpAnyH P md ops Q S (fuel + 1) listed a w :=
  wpAnyH_take ho hs hf hr hQ (Or.inr ⟨hw, rfl⟩) hS h
theorem held_do (ho : ops[i]? = some o) (hr : Region.ready md ops listed = [i]) (hw : Region.wanted o (yielded ops a.tmps) = true) (he : (execOp a.eval o).run P w = .ok (.value v) w) (hS : S w)
    (h : wpAnyH P md ops Q S fuel (listed.setIfInBounds i true) (a.put o.dst v) w) : wpAnyH P md ops Q S (fuel + 1) listed a w :=
  wpAnyH_ready hr (by simp) (AllReadyH.cons ho (fun K hK => by
    rw [if_pos hw, Oper.wp, he]
    exact hK.out _ _ hS (fun _ => h)) AllReadyH.nil)
theorem held_call {F : FuncId} {vs : Array Value} (ho : ops[i]? = some o) (hr : Region.ready md ops listed = [i]) (hw : Region.wanted o (yielded ops a.tmps) = true)
    (he : ∀ w, (execOp a.eval o).run P w = .ok (.enter F vs) w) (hc : ∀ w, Calls P F vs w fun e w' => e = .returned v ∧ Below w.heap.size w w') (hS : ∀ w', Below w.heap.size w w' → S w')
    (h : ∀ w', S w' → wpAnyH P md ops Q S fuel (listed.setIfInBounds i true) (a.put o.dst v) w') : wpAnyH P md ops Q S (fuel + 1) listed a w :=
  wpAnyH_ready hr (by simp) (AllReadyH.cons ho (fun K hK => by
    rw [if_pos hw, Oper.wp, he]
    refine (hc w).mono ?_
    rintro e w' ⟨rfl, hb⟩
    exact hK.out _ _ (hS w' hb) (fun hs => h w' hs)) AllReadyH.nil)
theorem list_take {rest : List Oper} (hw : Region.wanted o (yielded ops a.tmps) = true) (he : (execOp a.eval o).run P w = .ok (.value v) w) (h : wpList P ops Q rest (a.put o.dst v) w) : wpList P ops Q (o :: rest) a w :=
  wpList_step fun K hK => by
    rw [if_pos hw, Oper.wp, he]
    exact hK _ _ h
theorem list_call {F : FuncId} {vs : Array Value} {rest : List Oper} (hw : Region.wanted o (yielded ops a.tmps) = true) (he : ∀ w, (execOp a.eval o).run P w = .ok (.enter F vs) w)
    (hc : ∀ w, Calls P F vs w fun e w' => e = .returned v ∧ Below w.heap.size w w') (h : ∀ w', Below w.heap.size w w' → wpList P ops Q rest (a.put o.dst v) w') : wpList P ops Q (o :: rest) a w :=
  wpList_step fun K hK => by
    rw [if_pos hw, Oper.wp, he]
    refine (hc w).mono ?_
    rintro e w' ⟨rfl, hb⟩
    exact hK _ _ (h w' hb)
theorem exec_bin {op : BinOp} {t t' : TypeId} {x y : Operand} {X Y V : Value} (ho : o.op = .binOp op t x y t') (hx : a.eval x = X) (hy : a.eval y = Y) (hg : ∀ w, (eqGuard op t x y X Y).run P w = .ok () w) (hb : ∀ w, (binOp op t X Y).run P w = .ok V w) (w : World) :
    (execOp a.eval o).run P w = .ok (.value V) w := by
  unfold execOp
  simp only [ho, hx, hy, Sem.run_bind, hg, hb, Result.andThen_ok, Sem.run_pure]
theorem exec_un {op : UnOp} {t : TypeId} {x : Operand} {X V : Value} (ho : o.op = .unOp op t x) (hx : a.eval x = X) (hb : ∀ w, (Op.unary op X).run P w = .ok V w) (w : World) :
    (execOp a.eval o).run P w = .ok (.value V) w := by
  unfold execOp
  simp only [ho, hx, Sem.run_bind, hb, Result.andThen_ok, Sem.run_pure]
theorem exec_vec {x : Operand} {b : Nat} {l : List Int} {w : World} (ho : o.op = .load 23 x) (hl : l.length = 16) (hx : a.eval x = .pointer (some ⟨b, 0, none⟩)) (h : VecAt w b l) :
    (execOp a.eval o).run Try.prog w = .ok (.value (vecV l)) w := by
  unfold execOp
  simp only [ho, hx, Sem.run_bind, run_loadAt_mid w b 0 23 (ints l) _ h.range Try.underlying23 rfl (vinfo hl), Result.andThen_ok, Sem.run_pure]
theorem exec_dot {x : Operand} {b : Nat} {r n : Int} {w : World} (ho : o.op = .load 26 x) (hx : a.eval x = .pointer (some ⟨b, 0, none⟩)) (h0 : w.cell? ⟨b, 0, none⟩ = some (.int .i64 r)) (h1 : w.cell? ⟨b, 1, none⟩ = some (.int .i64 n)) :
    (execOp a.eval o).run Try.prog w = .ok (.value (.agg #[.int .i64 r, .int .i64 n])) w := by
  unfold execOp
  simp only [ho, hx, Sem.run_bind]
  go_simp
theorem exec_int {x : Operand} {b k : Nat} {n : Int} {w : World} (ho : o.op = .load 3 x) (hx : a.eval x = .pointer (some ⟨b, k, none⟩)) (h0 : w.cell? ⟨b, k, none⟩ = some (.int .i64 n)) :
    (execOp a.eval o).run Try.prog w = .ok (.value (.int .i64 n)) w := by
  unfold execOp
  simp only [ho, hx, Sem.run_bind]
  go_simp
end
theorem eqb_same (x : Bool) (w : World) : (binOp .eql 4 (.bool x) (.bool x)).run Try.prog w = .ok (.bool true) w := by go_simp
theorem eqi_same (x : Int) (w : World) : (binOp .eql 3 (.int .i64 x) (.int .i64 x)).run Try.prog w = .ok (.bool true) w := by go_simp
theorem eqs_same (x : ByteArray) (w : World) : (binOp .eql 9 (.string x) (.string x)).run Try.prog w = .ok (.bool true) w := by go_simp
theorem eqv {x y : List Int} {b : Bool} (hx : x.length = 16) (hy : y.length = 16) (h : decide (x = y) = b) (w : World) : (binOp .eql 23 (vecV x) (vecV y)).run Try.prog w = .ok (.bool b) w := by
  rw [eql_vec x y hx hy, h]
theorem neqv {x y : List Int} (hx : x.length = 16) (hy : y.length = 16) (h : x = y) (w : World) : (binOp .neq 23 (vecV x) (vecV y)).run Try.prog w = .ok (.bool false) w := by
  rw [run_neq_struct, equal_vec w 9998 x y hx hy, decide_eq_true h]
  rfl
theorem not_of (x : Bool) (w : World) : (Op.unary .not (.bool x)).run Try.prog w = .ok (.bool (!x)) w := by go_simp
end Go.Proofs.Ytmifkfeobdnocaa
