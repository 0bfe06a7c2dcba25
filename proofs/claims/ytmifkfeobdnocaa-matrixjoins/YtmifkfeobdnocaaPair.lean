/- Two loads that may come up in either order; a row is stored in a region that draws its order; is it a row's number. -/
import Derived.Test.YtmifkfeobdnocaaMatEq
namespace Go.Proofs.Ytmifkfeobdnocaa
open Go.RowKit

section
variable {P : Program} {md : Region.Mode} {ops : Array Oper} {Q : Exit → Act → World → Prop} {S : World → Prop} {i j : Nat} {o o' : Oper} {v v' : Value} {fuel : Nat} {listed : Array Bool} {a : Act} {w : World}
theorem held_pair (ho : ops[i]? = some o) (ho' : ops[j]? = some o') (hr : Region.ready md ops listed = [i, j]) (hri : Region.ready md ops (listed.setIfInBounds i true) = [j]) (hrj : Region.ready md ops (listed.setIfInBounds j true) = [i])
    (hw : Region.wanted o (yielded ops a.tmps) = true) (hw' : Region.wanted o' (yielded ops a.tmps) = true) (hw1 : Region.wanted o' (yielded ops (a.put o.dst v).tmps) = true) (hw2 : Region.wanted o (yielded ops (a.put o'.dst v').tmps) = true)
    (he : (execOp a.eval o).run P w = .ok (.value v) w) (he' : (execOp a.eval o').run P w = .ok (.value v') w) (he1 : (execOp (a.put o.dst v).eval o').run P w = .ok (.value v') w) (he2 : (execOp (a.put o'.dst v').eval o).run P w = .ok (.value v) w)
    (hl : (listed.setIfInBounds j true).setIfInBounds i true = (listed.setIfInBounds i true).setIfInBounds j true) (ha : (a.put o'.dst v').put o.dst v = (a.put o.dst v).put o'.dst v') (hS : S w)
    (h : wpAnyH P md ops Q S fuel ((listed.setIfInBounds i true).setIfInBounds j true) ((a.put o.dst v).put o'.dst v') w) : wpAnyH P md ops Q S (fuel + 1 + 1) listed a w :=
  wpAnyH_ready hr (by simp) (AllReadyH.cons ho (fun K hK => by
    rw [if_pos hw, Oper.wp, he]
    exact hK.out _ _ hS (fun _ => held_do ho' hri hw1 he1 hS h)) (AllReadyH.cons ho' (fun K hK => by
    rw [if_pos hw', Oper.wp, he']
    exact hK.out _ _ hS (fun _ => held_do ho hrj hw2 he2 hS (by rw [hl, ha]; exact h))) AllReadyH.nil))
/-- A call, whatever it hands back. -/
theorem held_callX {F : FuncId} {vs : Array Value} {R : Ending → World → Prop} (ho : ops[i]? = some o) (hr : Region.ready md ops listed = [i]) (hw : Region.wanted o (yielded ops a.tmps) = true)
    (he : ∀ w, (execOp a.eval o).run P w = .ok (.enter F vs) w) (hc : Calls P F vs w R) (h : ∀ e w', R e w' → ∃ v, e = .returned v ∧ S w' ∧ wpAnyH P md ops Q S fuel (listed.setIfInBounds i true) (a.put o.dst v) w') :
    wpAnyH P md ops Q S (fuel + 1) listed a w :=
  wpAnyH_ready hr (by simp) (AllReadyH.cons ho (fun K hK => by
    rw [if_pos hw, Oper.wp, he]
    refine hc.mono ?_
    intro e w' hR
    obtain ⟨v, rfl, hs, hk⟩ := h e w' hR
    exact hK.out _ _ hs (fun _ => hk)) AllReadyH.nil)
/-- A row is stored. -/
theorem held_put {T : TypeId} (ho : ops[i]? = some o) (hr : Region.ready md ops listed = [i]) (hw : Region.wanted o (yielded ops a.tmps) = true) (x y : Operand) (hop : o.op = .store 23 x y)
    (b k : Nat) (m l : List Int) (hm : m.length = 256) (hk : k < 16) (hl : l.length = 16) (hx : a.eval x = .pointer (some ⟨b, k * 16, none⟩)) (hy : a.eval y = vecV l) (h : MatAt T w b m) (hS : S (w.setCells b (k * 16) (ints l)))
    (hn : wpAnyH Try.prog md ops Q S fuel (listed.setIfInBounds i true) (a.put o.dst undef) (w.setCells b (k * 16) (ints l))) : wpAnyH Try.prog md ops Q S (fuel + 1) listed a w :=
  wpAnyH_ready hr (by simp) (AllReadyH.cons ho (fun K hK => by
    rw [if_pos hw]
    refine wp_store_mid 23 x y hop b (k * 16) (ints l).toArray hx hy ?_ (by simpa using vinfo hl) (ints_one l) (hK.out _ _ hS (fun _ => hn))
    have := h.there hm hk
    simpa [ints_length, hl] using this) AllReadyH.nil)
end

theorem isRow_in (i : Int) (h : 0 ≤ i ∧ i < 16) (w : World) : Calls Try.prog 21 #[.int .i64 i] w fun e w' => e = .returned (.bool true) ∧ w' = w := by
  obtain ⟨h0, h1⟩ := h
  go_enter Try.func21, Try.ntmps21
  go_wp2
  go_ret
  exact ⟨rfl, rfl⟩
theorem isRow_out (i : Int) (h : ¬ (0 ≤ i ∧ i < 16)) (w : World) : Calls Try.prog 21 #[.int .i64 i] w fun e w' => e = .returned (.bool false) ∧ w' = w := by
  by_cases h0 : 0 ≤ i
  · have h1 : ¬ i < 16 := fun e => h ⟨h0, e⟩
    clear h
    go_enter Try.func21, Try.ntmps21
    go_wp2
    go_ret
    exact ⟨rfl, rfl⟩
  · clear h
    go_enter Try.func21, Try.ntmps21
    go_wp2
    go_ret
    exact ⟨rfl, rfl⟩
end Go.Proofs.Ytmifkfeobdnocaa
