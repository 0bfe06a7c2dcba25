/- What stands through the walk of the statement MatrixJoins; two variables new in memory, in either order. -/
import Derived.Test.YtmifkfeobdnocaaTakes
namespace Go.Proofs.Ytmifkfeobdnocaa
open Go.RowKit

abbrev HeldJ (w : World) (a b : List Int) (c d e : Nat) (z : List Int) (w' : World) : Prop := MatAt 24 w' w.heap.size a ∧ MatAt 24 w' (w.heap.size + 1) b ∧ MatAt 27 w' c a ∧ MatAt 27 w' d b ∧ MatAt 27 w' e z ∧ Below w.heap.size w w'
theorem HeldJ.on {w W w1 : World} {a b z : List Int} {c d e : Nat} (h : HeldJ w a b c d e z W) (hb : Below W.heap.size W w1) : HeldJ w a b c d e z w1 := ⟨h.1.on hb, h.2.1.on hb, h.2.2.1.on hb, h.2.2.2.1.on hb, h.2.2.2.2.1.on hb, bchain h.2.2.2.2.2 hb⟩
theorem HeldJ.drew {w W : World} {a b z : List Int} {c d e : Nat} (h : HeldJ w a b c d e z W) : HeldJ w a b c d e z W.drew := ⟨h.1.drew, h.2.1.drew, h.2.2.1.drew, h.2.2.2.1.drew, h.2.2.2.2.1.drew, h.2.2.2.2.2.drew⟩
abbrev HeldB (w : World) (a b : List Int) (w' : World) : Prop := MatAt 24 w' w.heap.size a ∧ MatAt 24 w' (w.heap.size + 1) b ∧ Below w.heap.size w w'
theorem HeldB.on {w W w1 : World} {a b : List Int} (h : HeldB w a b W) (hb : Below W.heap.size W w1) : HeldB w a b w1 := ⟨h.1.on hb, h.2.1.on hb, bchain h.2.2 hb⟩
theorem HeldB.drew {w W : World} {a b : List Int} (h : HeldB w a b W) : HeldB w a b W.drew := ⟨h.1.drew, h.2.1.drew, h.2.2.drew⟩
theorem HeldB.row {w W : World} {a b : List Int} (h : HeldB w a b W) {c : Nat} (hc : w.heap.size + 1 + 1 ≤ c) (cs : Array Value) : HeldB w a b (W.setRow c cs) := ⟨h.1.other_row (by omega) _, h.2.1.other_row (by omega) _, below_setRow h.2.2 (by omega) _⟩

section
variable {md : Region.Mode} {ops : Array Oper} {Q : Exit → Act → World → Prop} {S : World → Prop} {i j : Nat} {o o' : Oper} {fuel : Nat} {listed : Array Bool} {a : Act} {w : World}
theorem exec_new27 (ho : o.op = .alloc 27) (a : Act) (w : World) : (execOp a.eval o).run Try.prog w = .ok (.value (.pointer (some ⟨w.heap.size, 0, none⟩))) (w.alloc (.cells (ints zeros).toArray 27)) := by
  have hz := zero27
  unfold execOp
  simp only [ho]
  go_simp
theorem held_new (ho : ops[i]? = some o) (hop : o.op = .alloc 27) (hr : Region.ready md ops listed = [i]) (hw : Region.wanted o (yielded ops a.tmps) = true) (hS : S (w.alloc (.cells (ints zeros).toArray 27)))
    (h : wpAnyH Try.prog md ops Q S fuel (listed.setIfInBounds i true) (a.put o.dst (.pointer (some ⟨w.heap.size, 0, none⟩))) (w.alloc (.cells (ints zeros).toArray 27))) : wpAnyH Try.prog md ops Q S (fuel + 1) listed a w :=
  wpAnyH_ready hr (by simp) (AllReadyH.cons ho (fun K hK => by
    rw [if_pos hw, Oper.wp, exec_new27 hop]
    exact hK.out _ _ hS (fun _ => h)) AllReadyH.nil)
theorem held_news (ho : ops[i]? = some o) (ho' : ops[j]? = some o') (hop : o.op = .alloc 27) (hop' : o'.op = .alloc 27) (hr : Region.ready md ops listed = [i, j]) (hri : Region.ready md ops (listed.setIfInBounds i true) = [j]) (hrj : Region.ready md ops (listed.setIfInBounds j true) = [i])
    (hw : Region.wanted o (yielded ops a.tmps) = true) (hw' : Region.wanted o' (yielded ops a.tmps) = true) (hw1 : ∀ v, Region.wanted o' (yielded ops (a.put o.dst v).tmps) = true) (hw2 : ∀ v, Region.wanted o (yielded ops (a.put o'.dst v).tmps) = true)
    (hl : (listed.setIfInBounds j true).setIfInBounds i true = (listed.setIfInBounds i true).setIfInBounds j true) (ha : ∀ v v', (a.put o'.dst v').put o.dst v = (a.put o.dst v).put o'.dst v') (hS : ∀ w', Below w.heap.size w w' → S w')
    (h : ∀ c d W, MatAt 27 W c zeros → MatAt 27 W d zeros → c ≠ d → w.heap.size ≤ c → w.heap.size ≤ d → Below w.heap.size w W → wpAnyH Try.prog md ops Q S fuel ((listed.setIfInBounds i true).setIfInBounds j true) ((a.put o.dst (.pointer (some ⟨c, 0, none⟩))).put o'.dst (.pointer (some ⟨d, 0, none⟩))) W) :
    wpAnyH Try.prog md ops Q S (fuel + 1 + 1) listed a w := by
  have b1 := below_new w (.cells (ints zeros).toArray 27)
  have b2 := bchain b1 (below_new (w.alloc (.cells (ints zeros).toArray 27)) (.cells (ints zeros).toArray 27))
  have s1 : (w.alloc (.cells (ints zeros).toArray 27)).heap.size = w.heap.size + 1 := by simp
  have m0 := (MatAt.new 27 w zeros).alloc (.cells (ints zeros).toArray 27)
  have m1 : MatAt 27 ((w.alloc (.cells (ints zeros).toArray 27)).alloc (.cells (ints zeros).toArray 27)) (w.alloc (.cells (ints zeros).toArray 27)).heap.size zeros := MatAt.new 27 _ zeros
  refine wpAnyH_ready hr (by simp) (AllReadyH.cons ho (fun K hK => ?_) (AllReadyH.cons ho' (fun K hK => ?_) AllReadyH.nil))
  · rw [if_pos hw, Oper.wp, exec_new27 hop]
    exact hK.out _ _ (hS _ b1) (fun _ => held_new ho' hop' hri (hw1 _) (hS _ b2) (h _ _ _ m0 m1 (by omega) (by omega) (by omega) b2))
  · rw [if_pos hw', Oper.wp, exec_new27 hop']
    exact hK.out _ _ (hS _ b1) (fun _ => held_new ho hop hrj (hw2 _) (hS _ b2) (by rw [hl, ha]; exact h _ _ _ m1 m0 (by omega) (by omega) (by omega) b2))
theorem held_storeM (ho : ops[i]? = some o) (hr : Region.ready md ops listed = [i]) (hw : Region.wanted o (yielded ops a.tmps) = true) (x y : Operand) (hop : o.op = .store 27 x y)
    (b : Nat) (m n : List Int) (hm : m.length = 256) (hn : n.length = 256) (hx : a.eval x = .pointer (some ⟨b, 0, none⟩)) (hy : a.eval y = vecV m) (h : MatAt 27 w b n) (hS : S (w.setRow b (ints m).toArray))
    (hk : wpAnyH Try.prog md ops Q S fuel (listed.setIfInBounds i true) (a.put o.dst undef) (w.setRow b (ints m).toArray)) : wpAnyH Try.prog md ops Q S (fuel + 1) listed a w :=
  wpAnyH_ready hr (by simp) (AllReadyH.cons ho (fun K hK => by
    rw [if_pos hw]
    exact wp_store_row 27 x y hop b (ints m).toArray hx hy 27 _ h (by simpa using minfo m27 hm) (by simp [ints_length, hm, hn]) (ints_one m) (hK.out _ _ hS (fun _ => hk))) AllReadyH.nil)
end
theorem neqi_no {a b : Int} (h : a = b) (w : World) : (binOp .neq 3 (.int .i64 a) (.int .i64 b)).run Try.prog w = .ok (.bool false) w := by subst h; go_simp
theorem neqi_yes {a b : Int} (h : a ≠ b) (w : World) : (binOp .neq 3 (.int .i64 a) (.int .i64 b)).run Try.prog w = .ok (.bool true) w := by go_simp
end Go.Proofs.Ytmifkfeobdnocaa
