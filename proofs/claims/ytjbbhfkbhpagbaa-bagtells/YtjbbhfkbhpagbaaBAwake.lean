/- The chapter's example: an Add, a Remove that covers it, and another Add. -/
import Derived.Test.YtjbbhfkbhpagbaaBItsAAll
import Derived.Test.YtjbbhfkbhpagbaaGoodsAll
namespace Go.Proofs.Ytjbbhfkbhpagbaa.O
open Go.RowKit

abbrev addO : Os.Op := ⟨2, [[97]], 1, 5, [], 0, []⟩
abbrev remO : Os.Op := ⟨4, [[97]], 1, 5, [], 0, [((0, 1), 0)]⟩
abbrev exTs : List Tx.Txn := [actT (0, 1) addO, actT (0, 2) remO]
abbrev exTs3 : List Tx.Txn := [actT (0, 1) addO, actT (0, 2) remO, actT (1, 1) addO]
abbrev exIts3 : List Lv.Item := [⟨((1, 1), 0), addO, 1⟩]
theorem ex_all : Lv.all exTs (seenD []) = [] := by rfl
theorem ex_all3 : Lv.all exTs3 (seenD []) = exIts3 := by rfl
theorem ex_few3 : Few13 exTs3 := fun t ht => by
  simp only [exTs3, List.mem_cons, List.not_mem_nil, or_false] at ht
  rcases ht with rfl | rfl | rfl
  · exact ⟨by decide, fun o ho => by rw [List.mem_singleton.1 ho]; exact ⟨by decide, fun x hx => by simp at hx⟩⟩
  · exact ⟨by decide, fun o ho => by rw [List.mem_singleton.1 ho]; exact ⟨by decide, fun x hx => by rw [List.mem_singleton.1 hx]; exact ⟨by decide, by decide, by decide⟩⟩⟩
  · exact ⟨by decide, fun o ho => by rw [List.mem_singleton.1 ho]; exact ⟨by decide, fun x hx => by simp at hx⟩⟩
theorem ex_few : Few13 exTs := fun t ht => ex_few3 t (by
  simp only [exTs, List.mem_cons, List.not_mem_nil, or_false] at ht
  rcases ht with rfl | rfl <;> simp)
theorem ex_dots3 : ∀ t ∈ exTs3, (Lit.int .i64 t.d.1).wf = true ∧ (Lit.int .i64 t.d.2).wf = true := fun t ht => by
  simp only [exTs3, List.mem_cons, List.not_mem_nil, or_false] at ht
  rcases ht with rfl | rfl | rfl <;> exact ⟨by decide, by decide⟩
theorem ex_dots : ∀ t ∈ exTs, (Lit.int .i64 t.d.1).wf = true ∧ (Lit.int .i64 t.d.2).wf = true := fun t ht => ex_dots3 t (by
  simp only [exTs, List.mem_cons, List.not_mem_nil, or_false] at ht
  rcases ht with rfl | rfl <;> simp)
theorem ex_has3 : bagA exIts3 [[97]] (1, 5, []) = [((1, 1), 0)] := by decide +kernel
theorem ex_short3 {xs : List IE} (h : xs.map (·.1) = exIts3) : ShortI xs := fun x hx => by
  have hm : x.1 ∈ exIts3 := by rw [← h]; exact List.mem_map.2 ⟨x, hx, rfl⟩
  rw [List.mem_singleton.1 hm]
  decide +kernel
/-- Whether five is in the bag that the items tell, whatever was laid since. -/
def ExB (b : Bool) (w : World) (r vp : Value) : Prop := ∀ W, Below w.heap.size w W → Calls Try.prog 15 #[r, vp, .agg #[.int .i64 1, .int .i64 5, .string ⟨#[]⟩]] W fun e w' => e = .returned (.bool b) ∧ Below W.heap.size W w'

section
variable {o : Oper} {a : Act} {x : Operand} {p : Addr} {w : World}
theorem ex_l_val {v0 v1 v2 : Value} (ho : o.op = .load 26 x) (hx : a.eval x = .pointer (some p)) (h0 : w.cell? p = some v0) (h1 : w.cell? ⟨p.block, p.off + 1, none⟩ = some v1) (h2 : w.cell? ⟨p.block, p.off + 2, none⟩ = some v2) : (execOp a.eval o).run Try.prog w = .ok (.value (.agg #[v0, v1, v2])) w := by
  unfold execOp
  simp only [ho, hx, Sem.run_bind]
  go_simp
end
theorem wp_append_tx {o : Oper} {a : Act} {w : World} {K : Act → World → Prop} {Q : Exit → Act → World → Prop} (s x : Operand)
    (ho : o.op = .call { callee := .builtin .append, args := #[s, x], argTypes := #[22, 22] }) (B : Nat) (hB : B ≤ w.heap.size) (r : Value) (acc : List TE) (hs : a.eval s = r) (hown : w.ownsRow B 54 6 r acc.length (tcells acc))
    (g : Nat) (y : TE) (hx : a.eval x = .slice (some ⟨g, 0, none⟩) 1 1) (hv : ∀ j v, (tcells [y])[j]? = some v → w.cell? ((⟨g, 0, none⟩ : Addr).add j) = some v) (hone : ∀ u ∈ tcells [y], u.oneCell' = true) (hn : acc.length + 1 ≤ 1000000)
    (h : ∀ r' w', w'.ownsRow B 54 6 r' (acc ++ [y]).length (tcells (acc ++ [y])) ∧ w.grownBy w' r.ownBlock → K (a.put o.dst r') w') : o.wp Try.prog a w K Q := by
  obtain ⟨i0, hi, hz, hz1, hz2⟩ := info26
  refine wp_append_own w s x 22 ho B 54 i0 _ 6 64 Try.underlying22 hi hz hz1 hz2 rfl (by decide) r _ _ hs hown ⟨g, 0, none⟩ 1 1 (tcells [y]) hx (tcells_length [y]) hv hone (by unfold maxLen; omega) (by omega) hB ?_
  intro v' w1 hown' hg _
  refine h v' w1 ⟨?_, hg⟩
  rw [tcells_append, List.length_append]
  exact hown'
theorem opsOwn.grownT {w w' : World} {B B' n : Nat} {v r : Value} {os : List Os.Op} {xs : List Value} (h : opsOwn w B v os) (hr : w.ownsRow B' 54 6 r n xs) (hg : w.grownBy w' r.ownBlock) : opsOwn w' B v os := by
  obtain ⟨ys, h1, h2, h3⟩ := h
  exact ⟨ys, h1, own_grown_other h2 hg (own_types h2 hr (by decide)), fun x hx => ⟨own_grown_other (h3 x hx).1 hg (own_types (h3 x hx).1 hr (by decide)), own_grown_other (h3 x hx).2 hg (own_types (h3 x hx).2 hr (by decide))⟩⟩
/-- The example's variables, while it is read. -/
structure AwS (w : World) (b : Nat) (pv : Value) (W : World) : Prop where
  va : VcAt W ⟨b + 1, 0, none⟩ (1, 5, [])
  op : OcAt W ⟨b + 1 + 1, 0, none⟩ addO pv (.slice none 0 0)
  below : Below w.heap.size w W
  t1 : ∃ cs, W.heap[b + 1]? = some (.cells cs 26 (0, 0))
  t2 : ∃ cs, W.heap[b + 1 + 1]? = some (.cells cs 47 (0, 0))
theorem AwS.on {w : World} {b : Nat} {pv : Value} {W W' : World} (h : AwS w b pv W) (hb : Below W.heap.size W W') : AwS w b pv W' := by
  obtain ⟨h1, h2, h4, ⟨c1, h5⟩, ⟨c2, h6⟩⟩ := h
  exact ⟨h1.on hb, h2.on hb, bchain h4 hb, ⟨c1, (hb.block _ (heap_lt9 h5)).trans h5⟩, ⟨c2, (hb.block _ (heap_lt9 h6)).trans h6⟩⟩
theorem AwS.grown {w : World} {b : Nat} {pv : Value} {W W' : World} (h : AwS w b pv W) {B : Nat} {v : Value} {xs : List Value} {n : Nat} (hg : W.grownBy W' v.ownBlock) (hown : W.ownsRow B 54 6 v n xs) (hB : w.heap.size ≤ B) : AwS w b pv W' := by
  obtain ⟨h1, h2, h4, ⟨c1, h5⟩, ⟨c2, h6⟩⟩ := h
  have n1 := own_ne_block hown h5 (by decide)
  have n2 := own_ne_block hown h6 (by decide)
  obtain ⟨a0, a1, a2⟩ := h1
  obtain ⟨b0, b1, b2, b3, b4, b5, b6⟩ := h2
  refine ⟨⟨hg.cell a0 n1, hg.cell a1 n1, hg.cell a2 n1⟩, ⟨hg.cell b0 n2, hg.cell b1 n2, hg.cell b2 n2, hg.cell b3 n2, hg.cell b4 n2, hg.cell b5 n2, hg.cell b6 n2⟩, h4.grown hg h4.size (fun g e => Nat.le_trans hB (hown.lt g e).1), ⟨c1, ?_⟩, ⟨c2, ?_⟩⟩
  · rw [hg.block _ (heap_lt9 h5) n1]; exact h5
  · rw [hg.block _ (heap_lt9 h6) n2]; exact h6

set_option maxRecDepth 20000 in
set_option maxHeartbeats 4000000 in
theorem awake_any (w : World) : Calls Try.prog 6 #[] w fun e w' => e = .returned (.bool true) ∧ Below w.heap.size w w' := by
  obtain ⟨W3, hW3⟩ : ∃ W3, W3 = ((((w.alloc (.cells #[.string ⟨#[97]⟩] 9)).alloc (.cells #[.int .i64 1, .int .i64 5, .string ⟨#[]⟩] 26)).alloc (.cells #[.int .i64 2, .slice (some ⟨w.heap.size, 0, none⟩) 1 1, .int .i64 1, .int .i64 5, .string ⟨#[]⟩, .int .i64 0, .slice none 0 0] 47)).alloc (.cells #[.int .i64 0, .int .i64 1, .int .i64 0] 51)) := ⟨_, rfl⟩
  have k3 : Below w.heap.size w W3 := by rw [hW3]; exact bchain (bchain (bchain (below_new _ _) (below_new _ _)) (below_new _ _)) (below_new _ _)
  have p3 : W3.ownsRow w.heap.size 9 1 (.slice (some ⟨w.heap.size, 0, none⟩) 1 1) 1 (U.cellsS [[97]]) := by
    have h := own_new w (B := w.heap.size) (s := 1) (n := 1) (T := 9) (cs := U.cellsS [[97]]) rfl (Nat.le_refl _) (by unfold maxLen; omega)
    rw [hW3]
    exact own_on h (bchain (bchain (below_new _ _) (below_new _ _)) (below_new _ _))
  have e1 : (w.alloc (.cells #[.string ⟨#[97]⟩] 9)).heap.size = w.heap.size + 1 := by simp
  have e2 : ((w.alloc (.cells #[.string ⟨#[97]⟩] 9)).alloc (.cells #[.int .i64 1, .int .i64 5, .string ⟨#[]⟩] 26)).heap.size = w.heap.size + 1 + 1 := by simp
  have e3 : (((w.alloc (.cells #[.string ⟨#[97]⟩] 9)).alloc (.cells #[.int .i64 1, .int .i64 5, .string ⟨#[]⟩] 26)).alloc (.cells #[.int .i64 2, .slice (some ⟨w.heap.size, 0, none⟩) 1 1, .int .i64 1, .int .i64 5, .string ⟨#[]⟩, .int .i64 0, .slice none 0 0] 47)).heap.size = w.heap.size + 1 + 1 + 1 := by simp
  have h1 : W3.heap[w.heap.size + 1]? = some (.cells #[.int .i64 1, .int .i64 5, .string ⟨#[]⟩] 26 (0, 0)) := by
    have h := heap_alloc_new (w.alloc (.cells #[.string ⟨#[97]⟩] 9)) (.cells #[.int .i64 1, .int .i64 5, .string ⟨#[]⟩] 26)
    rw [e1] at h
    rw [hW3]
    exact ((bchain (below_new _ _) (below_new _ _)).block _ (heap_lt9 h)).trans h
  have c10 : W3.cell? ⟨w.heap.size + 1, 0, none⟩ = some (.int .i64 1) := cell_of_row W3 _ 0 _ 26 (0, 0) h1
  have c11 : W3.cell? ⟨w.heap.size + 1, 1, none⟩ = some (.int .i64 5) := cell_of_row W3 _ 1 _ 26 (0, 0) h1
  have c12 : W3.cell? ⟨w.heap.size + 1, 2, none⟩ = some (.string ⟨#[]⟩) := cell_of_row W3 _ 2 _ 26 (0, 0) h1
  have h2 : W3.heap[w.heap.size + 1 + 1]? = some (.cells #[.int .i64 2, .slice (some ⟨w.heap.size, 0, none⟩) 1 1, .int .i64 1, .int .i64 5, .string ⟨#[]⟩, .int .i64 0, .slice none 0 0] 47 (0, 0)) := by
    have h := heap_alloc_new ((w.alloc (.cells #[.string ⟨#[97]⟩] 9)).alloc (.cells #[.int .i64 1, .int .i64 5, .string ⟨#[]⟩] 26)) (.cells #[.int .i64 2, .slice (some ⟨w.heap.size, 0, none⟩) 1 1, .int .i64 1, .int .i64 5, .string ⟨#[]⟩, .int .i64 0, .slice none 0 0] 47)
    rw [e2] at h
    rw [hW3]
    exact ((below_new _ _).block _ (heap_lt9 h)).trans h
  have c20 : W3.cell? ⟨w.heap.size + 1 + 1, 0, none⟩ = some (.int .i64 2) := cell_of_row W3 _ 0 _ 47 (0, 0) h2
  have c21 : W3.cell? ⟨w.heap.size + 1 + 1, 1, none⟩ = some (.slice (some ⟨w.heap.size, 0, none⟩) 1 1) := cell_of_row W3 _ 1 _ 47 (0, 0) h2
  have c22 : W3.cell? ⟨w.heap.size + 1 + 1, 2, none⟩ = some (.int .i64 1) := cell_of_row W3 _ 2 _ 47 (0, 0) h2
  have c23 : W3.cell? ⟨w.heap.size + 1 + 1, 3, none⟩ = some (.int .i64 5) := cell_of_row W3 _ 3 _ 47 (0, 0) h2
  have c24 : W3.cell? ⟨w.heap.size + 1 + 1, 4, none⟩ = some (.string ⟨#[]⟩) := cell_of_row W3 _ 4 _ 47 (0, 0) h2
  have c25 : W3.cell? ⟨w.heap.size + 1 + 1, 5, none⟩ = some (.int .i64 0) := cell_of_row W3 _ 5 _ 47 (0, 0) h2
  have c26 : W3.cell? ⟨w.heap.size + 1 + 1, 6, none⟩ = some (.slice none 0 0) := cell_of_row W3 _ 6 _ 47 (0, 0) h2
  have h3 : W3.heap[w.heap.size + 1 + 1 + 1]? = some (.cells #[.int .i64 0, .int .i64 1, .int .i64 0] 51 (0, 0)) := by
    have h := heap_alloc_new (((w.alloc (.cells #[.string ⟨#[97]⟩] 9)).alloc (.cells #[.int .i64 1, .int .i64 5, .string ⟨#[]⟩] 26)).alloc (.cells #[.int .i64 2, .slice (some ⟨w.heap.size, 0, none⟩) 1 1, .int .i64 1, .int .i64 5, .string ⟨#[]⟩, .int .i64 0, .slice none 0 0] 47)) (.cells #[.int .i64 0, .int .i64 1, .int .i64 0] 51)
    rw [e3] at h
    rw [hW3]
    exact h
  have c30 : W3.cell? ⟨w.heap.size + 1 + 1 + 1, 0, none⟩ = some (.int .i64 0) := cell_of_row W3 _ 0 _ 51 (0, 0) h3
  have c31 : W3.cell? ⟨w.heap.size + 1 + 1 + 1, 1, none⟩ = some (.int .i64 1) := cell_of_row W3 _ 1 _ 51 (0, 0) h3
  have c32 : W3.cell? ⟨w.heap.size + 1 + 1 + 1, 2, none⟩ = some (.int .i64 0) := cell_of_row W3 _ 2 _ 51 (0, 0) h3
  clear e1 e2 e3
  have hp : U.strsAt W3 (.slice (some ⟨w.heap.size, 0, none⟩) 1 1) [[97]] := by
    have h := strs_one w [97]
    rw [hW3]
    exact U.strsAt_below h (bchain (bchain (below_new _ _) (below_new _ _)) (below_new _ _)) (Nat.le_refl _)
  have HA : ∀ v W, Below W3.heap.size W3 W → txsIn W v exTs → Calls Try.prog 7 #[v, .slice none 0 0] W fun e w' => (∃ r, e = .returned r ∧ Hid (ExB false w' r (.slice (some ⟨w.heap.size, 0, none⟩) 1 1))) ∧ Below W.heap.size W w' := fun v W hW hv =>
    (all_any v (.slice none 0 0) exTs [] W hv (T.cntsIn_nil W) (by decide) ex_few ex_dots (by simp) Ct.std_nil).mono fun e w' ⟨r, xs, e1, h1, h2, h3⟩ => by
      rw [ex_all] at h2
      obtain rfl := List.map_eq_nil_iff.1 h2
      have hE : ExB false w' r (.slice (some ⟨w.heap.size, 0, none⟩) 1 1) := fun W' hb => has_its (h1.on hb) h2 (U.strsAt_below hp (bchain hW (bchain h3 hb)) (Nat.le_refl _)) (by simp) (fun x hx => by simp at hx) (1, 5, [])
      exact ⟨⟨r, e1, hE⟩, h3⟩
  have HA3 : ∀ v W, Below W3.heap.size W3 W → txsIn W v exTs3 → Calls Try.prog 7 #[v, .slice none 0 0] W fun e w' => (∃ r, e = .returned r ∧ Hid (ExB true w' r (.slice (some ⟨w.heap.size, 0, none⟩) 1 1))) ∧ Below W.heap.size W w' := fun v W hW hv =>
    (all_any v (.slice none 0 0) exTs3 [] W hv (T.cntsIn_nil W) (by decide) ex_few3 ex_dots3 (by simp) Ct.std_nil).mono fun e w' ⟨r, xs, e1, h1, h2, h3⟩ => by
      rw [ex_all3] at h2
      have hn : xs.length ≤ 1000000 := by have := congrArg List.length h2; simp at this; omega
      have hE : ExB true w' r (.slice (some ⟨w.heap.size, 0, none⟩) 1 1) := fun W' hb => by
        have h := has_its (h1.on hb) h2 (U.strsAt_below hp (bchain hW (bchain h3 hb)) (Nat.le_refl _)) hn (ex_short3 h2) (1, 5, [])
        rw [ex_has3] at h
        exact h
      exact ⟨⟨r, e1, hE⟩, h3⟩
  have HPa := fun d W (hb : Below W3.heap.size W3 W) => act_own d addO (some ⟨w.heap.size, 0, none⟩) 1 1 none 0 0 w.heap.size W (Nat.le_trans k3.size hb.size) (own_on p3 hb) (World.ownsRow_nil _ _ _ _)
  have HPr := fun d sa sn sc W (hb : Below W3.heap.size W3 W) (hs : W.ownsRow w.heap.size 51 3 (.slice sa sn sc) 1 (ucells [((0, 1), 0)])) => act_own d remO (some ⟨w.heap.size, 0, none⟩) 1 1 sa sn sc w.heap.size W (Nat.le_trans k3.size hb.size) (own_on p3 hb) hs
  go_enter Try.func6, Try.ntmps6
  go_wp2
  rw [← hW3]
  clear hW3 hp
  go_region_held3 (fun w' => w'.cell? ⟨w.heap.size + 1, 0, none⟩ = some (.int .i64 1) ∧ w'.cell? ⟨w.heap.size + 1, 1, none⟩ = some (.int .i64 5) ∧ w'.cell? ⟨w.heap.size + 1, 2, none⟩ = some (.string ⟨#[]⟩) ∧ w'.cell? ⟨w.heap.size + 1 + 1, 0, none⟩ = some (.int .i64 2) ∧ w'.cell? ⟨w.heap.size + 1 + 1, 1, none⟩ = some (.slice (some ⟨w.heap.size, 0, none⟩) 1 1) ∧ w'.cell? ⟨w.heap.size + 1 + 1, 2, none⟩ = some (.int .i64 1) ∧ w'.cell? ⟨w.heap.size + 1 + 1, 3, none⟩ = some (.int .i64 5) ∧ w'.cell? ⟨w.heap.size + 1 + 1, 4, none⟩ = some (.string ⟨#[]⟩) ∧ w'.cell? ⟨w.heap.size + 1 + 1, 5, none⟩ = some (.int .i64 0) ∧ w'.cell? ⟨w.heap.size + 1 + 1, 6, none⟩ = some (.slice none 0 0) ∧ w'.cell? ⟨w.heap.size + 1 + 1 + 1, 0, none⟩ = some (.int .i64 0) ∧ w'.cell? ⟨w.heap.size + 1 + 1 + 1, 1, none⟩ = some (.int .i64 1) ∧ w'.cell? ⟨w.heap.size + 1 + 1 + 1, 2, none⟩ = some (.int .i64 0))
    (refine ⟨?_, ?_, ?_, ?_, ?_, ?_, ?_, ?_, ?_, ?_, ?_, ?_, ?_⟩ <;> (first | go_keep | (refine keep_cell hb ?_; go_keep)))
    (first
      | (go_at_call 18; refine (HPr (0, 2) _ _ _ _ j1 (own_on (own_on (own_new W3 (cs := ucells [((0, 1), 0)]) rfl k3.size (by unfold maxLen; omega)) (Below.refl _ _).drew) hb1)).mono ?_; rintro e w2 ⟨ao2, cp2, rfl, ho2, hb⟩; have j2 := bchain j1 hb; have ho1 := ho1.on hb)
      | (go_at_call 18; refine (HPr (0, 2) _ _ _ _ (bchain j1 (below_new _ _)) (own_new w1 (cs := ucells [((0, 1), 0)]) rfl (Nat.le_trans k3.size j1.size) (by unfold maxLen; omega))).mono ?_; rintro e w2 ⟨ao2, cp2, rfl, ho2, hb⟩; have hb : Below (w1.alloc (.cells #[.int .i64 0, .int .i64 1, .int .i64 0] 51)).heap.size (w1.alloc (.cells #[.int .i64 0, .int .i64 1, .int .i64 0] 51)) w2 := hb; have j2 := bchain j1 (bchain (below_new _ _) hb); have ho1 := (ho1.on (below_new _ _)).on hb)
      | (go_at_call 18; refine (HPa (0, 1) _ (Below.refl _ _).drew).mono ?_; rintro e w1 ⟨ao1, cp1, rfl, ho1, hb⟩; have j1 := bchain (Below.refl _ _).drew hb)
      | (go_at_call 18; refine (HPa (0, 1) _ (below_new _ _).drew).mono ?_; rintro e w1 ⟨ao1, cp1, rfl, ho1, hb⟩; have hb1 := hb; have j1 := bchain (below_new _ _).drew hb))
  all_goals
    obtain ⟨V, hV⟩ : ∃ V, V = w2.alloc (.cells #[.int .i64 0, .int .i64 1, .int .i64 0, .int .i64 1, .bool false, .slice ao1 1 cp1, .int .i64 0, .int .i64 2, .int .i64 0, .int .i64 1, .bool false, .slice ao2 1 cp2] 54) := ⟨_, rfl⟩
    have kV : Below W3.heap.size W3 V := by rw [hV]; exact bchain j2 (below_new _ _)
    have oV1 : opsOwn V w.heap.size (.slice ao1 1 cp1) [addO] := by rw [hV]; exact ho1.on (below_new _ _)
    have oV2 : opsOwn V w.heap.size (.slice ao2 1 cp2) [remO] := by rw [hV]; exact ho2.on (below_new _ _)
    have tV : V.ownsRow W3.heap.size 54 6 (.slice (some ⟨w2.heap.size, 0, none⟩) 2 2) 2 (tcells [((actT (0, 1) addO, .slice ao1 1 cp1) : TE), ((actT (0, 2) remO, .slice ao2 1 cp2) : TE)]) := by
      rw [hV]
      exact own_new w2 (cs := tcells [((actT (0, 1) addO, .slice ao1 1 cp1) : TE), ((actT (0, 2) remO, .slice ao2 1 cp2) : TE)]) rfl j2.size (by unfold maxLen; omega)
    rw [← hV]
    clear hV ho1 ho2 j2
    obtain ⟨gt, hgt⟩ : ∃ gt, gt = w2.heap.size := ⟨_, rfl⟩
    rw [← hgt] at tV ⊢
    clear hgt
    have HTx : ∀ W, Below V.heap.size V W → txsIn W (.slice (some ⟨gt, 0, none⟩) 2 2) exTs := fun W hb => txsIn_row (own_on tV hb) fun x hx => by
      simp only [List.mem_cons, List.not_mem_nil, or_false] at hx
      rcases hx with rfl | rfl
      · exact opsIn_own (oV1.on hb)
      · exact opsIn_own (oV2.on hb)
    have hA0 : AwS W3 w.heap.size (.slice (some ⟨w.heap.size, 0, none⟩) 1 1) V := AwS.mk ⟨keep_cell kV c10, keep_cell kV c11, keep_cell kV c12⟩ ⟨keep_cell kV c20, keep_cell kV c21, keep_cell kV c22, keep_cell kV c23, keep_cell kV c24, keep_cell kV c25, keep_cell kV c26⟩ kV ⟨_, (kV.block _ (heap_lt9 h1)).trans h1⟩ ⟨_, (kV.block _ (heap_lt9 h2)).trans h2⟩
    have hAS := hA0.on (Below.refl _ _).drew
    clear hA0 h1 h2 h3 c10 c11 c12 c20 c21 c22 c23 c24 c25 c26 c30 c31 c32
    go_wp2
    refine wp_region_held_drew (S := fun W => AwS W3 w.heap.size (.slice (some ⟨w.heap.size, 0, none⟩) 1 1) W) (by kernel_rfl) (hAS) (fun hH0 => ?_)
    refine held_take (i := 0) (o := { dst := some 25, op := Op.move (Operand.tmp 5), type := 22, pos := "law.go:27", after := #[], guard := none }) (v := .slice (some ⟨gt, 0, none⟩) 2 2) (by kernel_rfl) (by kernel_rfl) (by kernel_rfl) (by kernel_rfl) (fun _ _ _ h => h) (by kernel_rfl) (fun _ _ => by kernel_rfl) hH0 ?_
    refine held_take (i := 2) (o := { dst := some 27, op := Op.move (Operand.tmp 1), type := 24, pos := "law.go:27", after := #[], guard := none }) (v := .slice (some ⟨w.heap.size, 0, none⟩) 1 1) (by kernel_rfl) (by kernel_rfl) (by kernel_rfl) (by kernel_rfl) (fun _ _ _ h => h) (by kernel_rfl) (fun _ _ => by kernel_rfl) hH0 ?_
    refine held_take (i := 3) (o := { dst := some 28, op := Op.load 26 (Operand.tmp 2), type := 26, pos := "law.go:27", after := #[], guard := none }) (v := .agg #[.int .i64 1, .int .i64 5, .string ⟨#[]⟩]) (by kernel_rfl) (by kernel_rfl) (by kernel_rfl) (by kernel_rfl) (fun _ _ _ h => h) (by kernel_rfl) (fun _ h => ex_l_val (p := ⟨w.heap.size + 1, 0, none⟩) rfl (by kernel_rfl) (h.va.c0) (h.va.c1) (h.va.c2)) hH0 ?_
    refine held_callX (i := 1) (o := { dst := some 26, op := Op.call { callee := Callee.value (Operand.func 7), args := #[Operand.tmp 25, Operand.const (Value.slice none 0 0)], argTypes := #[22, 23] }, type := 30, pos := "law.go:27", after := #[{ on := 0, ground := Ground.data }], guard := none }) (F := 7) (vs := #[.slice (some ⟨gt, 0, none⟩) 2 2, (.slice none 0 0)]) (by kernel_rfl) (by kernel_rfl) (by kernel_rfl) (fun _ => by kernel_rfl) (HA _ _ hH0.below (HTx _ (Below.refl _ _).drew)) ?_
    rintro e w1 ⟨⟨r1, rfl, hX1⟩, hb1⟩
    have hH1 := hH0.on hb1
    refine ⟨r1, rfl, hH1, ?_⟩
    refine held_callX (i := 4) (o := { dst := some 29, op := Op.call { callee := Callee.value (Operand.func 15), args := #[Operand.tmp 26, Operand.tmp 27, Operand.tmp 28], argTypes := #[30, 24, 26] }, type := 4, pos := "law.go:27", after := #[{ on := 1, ground := Ground.data }, { on := 2, ground := Ground.data }, { on := 3, ground := Ground.data }, { on := 1, ground := Ground.chain }], guard := none }) (F := 15) (vs := #[r1, .slice (some ⟨w.heap.size, 0, none⟩) 1 1, .agg #[.int .i64 1, .int .i64 5, .string ⟨#[]⟩]]) (by kernel_rfl) (by kernel_rfl) (by kernel_rfl) (fun _ => by kernel_rfl) (hX1.out _ (Below.refl _ _)) ?_
    rintro e w2 ⟨rfl, hb2⟩
    have hH2 := hH1.on hb2
    refine ⟨.bool false, rfl, hH2, ?_⟩
    refine held_take (i := 5) (o := { dst := some 30, op := Op.unOp UnOp.not 4 (Operand.tmp 29), type := 4, pos := "law.go:27", after := #[{ on := 4, ground := Ground.data }], guard := none }) (v := .bool true) (by kernel_rfl) (by kernel_rfl) (by kernel_rfl) (by kernel_rfl) (fun _ _ _ h => h) (by kernel_rfl) (fun W _ => exec_un rfl (by kernel_rfl) (not_of false) W) hH2 ?_
    refine held_take (i := 6) (o := { dst := some 31, op := Op.move (Operand.tmp 30), type := 4, pos := "law.go:27", after := #[{ on := 5, ground := Ground.data }, { on := 4, ground := Ground.chain }], guard := none }) (v := .bool true) (by kernel_rfl) (by kernel_rfl) (by kernel_rfl) (by kernel_rfl) (fun _ _ _ h => h) (by kernel_rfl) (fun _ _ => by kernel_rfl) hH2 ?_
    refine held_take (i := 7) (o := { dst := some 32, op := Op.move (Operand.tmp 5), type := 22, pos := "law.go:27", after := #[{ on := 6, ground := Ground.guard }], guard := some (6, true) }) (v := .slice (some ⟨gt, 0, none⟩) 2 2) (by kernel_rfl) (by kernel_rfl) (by kernel_rfl) (by kernel_rfl) (fun _ _ _ h => h) (by kernel_rfl) (fun _ _ => by kernel_rfl) hH2 ?_
    refine held_take (i := 8) (o := { dst := some 33, op := Op.build 49 #[(0, Operand.const (Value.int IntKind.i64 1)), (1, Operand.const (Value.int IntKind.i64 1))], type := 49, pos := "law.go:27", after := #[{ on := 6, ground := Ground.guard }], guard := some (6, true) }) (v := .agg #[.int .i64 1, .int .i64 1]) (by kernel_rfl) (by kernel_rfl) (by kernel_rfl) (by kernel_rfl) (fun _ _ _ h => h) (by kernel_rfl) (fun _ _ => by kernel_rfl) hH2 ?_
    refine held_take (i := 9) (o := { dst := some 34, op := Op.load 47 (Operand.tmp 3), type := 47, pos := "law.go:27", after := #[{ on := 6, ground := Ground.guard }], guard := some (6, true) }) (v := .agg #[.int .i64 2, .slice (some ⟨w.heap.size, 0, none⟩) 1 1, .int .i64 1, .int .i64 5, .string ⟨#[]⟩, .int .i64 0, .slice none 0 0]) (by kernel_rfl) (by kernel_rfl) (by kernel_rfl) (by kernel_rfl) (fun _ _ _ h => h) (by kernel_rfl) (fun _ h => ex_l_op (p := ⟨w.heap.size + 1 + 1, 0, none⟩) rfl (by kernel_rfl) (h.op.c0) (h.op.c1) (h.op.c2) (h.op.c3) (h.op.c4) (h.op.c5) (h.op.c6)) hH2 ?_
    refine held_take (i := 14) (o := { dst := some 39, op := Op.move (Operand.tmp 1), type := 24, pos := "law.go:27", after := #[{ on := 6, ground := Ground.guard }], guard := some (6, true) }) (v := .slice (some ⟨w.heap.size, 0, none⟩) 1 1) (by kernel_rfl) (by kernel_rfl) (by kernel_rfl) (by kernel_rfl) (fun _ _ _ h => h) (by kernel_rfl) (fun _ _ => by kernel_rfl) hH2 ?_
    refine held_take (i := 15) (o := { dst := some 40, op := Op.load 26 (Operand.tmp 2), type := 26, pos := "law.go:27", after := #[{ on := 6, ground := Ground.guard }], guard := some (6, true) }) (v := .agg #[.int .i64 1, .int .i64 5, .string ⟨#[]⟩]) (by kernel_rfl) (by kernel_rfl) (by kernel_rfl) (by kernel_rfl) (fun _ _ _ h => h) (by kernel_rfl) (fun _ h => ex_l_val (p := ⟨w.heap.size + 1, 0, none⟩) rfl (by kernel_rfl) (h.va.c0) (h.va.c1) (h.va.c2)) hH2 ?_
    refine held_callX (i := 10) (o := { dst := some 35, op := Op.call { callee := Callee.value (Operand.func 18), args := #[Operand.tmp 33, Operand.tmp 34], argTypes := #[49, 47] }, type := 54, pos := "law.go:27", after := #[{ on := 8, ground := Ground.data }, { on := 9, ground := Ground.data }, { on := 6, ground := Ground.chain }, { on := 6, ground := Ground.guard }], guard := some (6, true) }) (F := 18) (vs := #[.agg #[.int .i64 1, .int .i64 1], .agg #[.int .i64 2, .slice (some ⟨w.heap.size, 0, none⟩) 1 1, .int .i64 1, .int .i64 5, .string ⟨#[]⟩, .int .i64 0, .slice none 0 0]]) (by kernel_rfl) (by kernel_rfl) (by kernel_rfl) (fun _ => by kernel_rfl) (HPa (1, 1) _ hH2.below) ?_
    rintro e w3 ⟨ao3, cp3, rfl, ho3, hb3⟩
    have hH3 := hH2.on hb3
    refine ⟨txV (actT (1, 1) addO) (.slice ao3 1 cp3), rfl, hH3, ?_⟩
    have hH4 := hH3.on (below_new w3 (txO ((actT (1, 1) addO, .slice ao3 1 cp3) : TE).1 ((actT (1, 1) addO, .slice ao3 1 cp3) : TE).2))
    have oY := ho3.on (below_new w3 (txO ((actT (1, 1) addO, .slice ao3 1 cp3) : TE).1 ((actT (1, 1) addO, .slice ao3 1 cp3) : TE).2))
    refine held_run (i := 11) (o := { dst := some 36, op := Op.buildSlice 22 1 #[(0, Operand.tmp 35)], type := 22, pos := "law.go:27", after := #[{ on := 10, ground := Ground.data }, { on := 6, ground := Ground.guard }], guard := some (6, true) }) (v := .slice (some ⟨w3.heap.size, 0, none⟩) 1 1) (w' := (w3.alloc (txO ((actT (1, 1) addO, .slice ao3 1 cp3) : TE).1 ((actT (1, 1) addO, .slice ao3 1 cp3) : TE).2))) (by kernel_rfl) (by kernel_rfl) (by kernel_rfl) (by kernel_rfl) hH4 ?_
    have kW := bchain (Below.refl _ V).drew (bchain hb1 (bchain hb2 (bchain hb3 (below_new w3 (txO ((actT (1, 1) addO, .slice ao3 1 cp3) : TE).1 ((actT (1, 1) addO, .slice ao3 1 cp3) : TE).2)))))
    have tY := own_on tV kW
    have oY1 := oV1.on kW
    have oY2 := oV2.on kW
    refine held_wp (i := 12) (o := { dst := some 37, op := Op.call { callee := Callee.builtin Builtin.append, args := #[Operand.tmp 32, Operand.tmp 36], argTypes := #[22, 22] }, type := 22, pos := "law.go:27", after := #[{ on := 7, ground := Ground.data }, { on := 11, ground := Ground.data }, { on := 10, ground := Ground.chain }, { on := 6, ground := Ground.guard }], guard := some (6, true) }) (R := fun v' w' => w'.ownsRow W3.heap.size 54 6 v' ([((actT (0, 1) addO, .slice ao1 1 cp1) : TE), ((actT (0, 2) remO, .slice ao2 1 cp2) : TE)] ++ [((actT (1, 1) addO, .slice ao3 1 cp3) : TE)]).length (tcells ([((actT (0, 1) addO, .slice ao1 1 cp1) : TE), ((actT (0, 2) remO, .slice ao2 1 cp2) : TE)] ++ [((actT (1, 1) addO, .slice ao3 1 cp3) : TE)])) ∧ World.grownBy (w3.alloc (txO ((actT (1, 1) addO, .slice ao3 1 cp3) : TE).1 ((actT (1, 1) addO, .slice ao3 1 cp3) : TE).2)) w' (Value.ownBlock (.slice (some ⟨gt, 0, none⟩) 2 2))) (by kernel_rfl) (by kernel_rfl) (by kernel_rfl) (fun K9 Q9 hK9 => wp_append_tx _ _ rfl W3.heap.size hH4.below.size (.slice (some ⟨gt, 0, none⟩) 2 2) [((actT (0, 1) addO, .slice ao1 1 cp1) : TE), ((actT (0, 2) remO, .slice ao2 1 cp2) : TE)] (by kernel_rfl) tY w3.heap.size ((actT (1, 1) addO, .slice ao3 1 cp3) : TE) (by kernel_rfl) (new_tx w3 ((actT (1, 1) addO, .slice ao3 1 cp3) : TE)) (tcells_one fun x hx => by rw [List.mem_singleton.1 hx]; exact ⟨_, _, _, rfl⟩) (by simp) hK9) ?_
    rintro v2 w9 ⟨hown2, hg2⟩
    have hH5 := hH4.grown hg2 tY (Nat.le_refl _)
    have oZ1 := oY1.grownT tY hg2
    have oZ2 := oY2.grownT tY hg2
    have oZ3 := oY.grownT tY hg2
    have hT3 : txsIn w9 v2 exTs3 := txsIn_row hown2 fun x hx => by
        simp only [List.cons_append, List.nil_append, List.mem_cons, List.not_mem_nil, or_false] at hx
        rcases hx with rfl | rfl | rfl
        · exact opsIn_own oZ1
        · exact opsIn_own oZ2
        · exact opsIn_own oZ3
    refine ⟨hH5, ?_⟩
    refine held_callX (i := 13) (o := { dst := some 38, op := Op.call { callee := Callee.value (Operand.func 7), args := #[Operand.tmp 37, Operand.const (Value.slice none 0 0)], argTypes := #[22, 23] }, type := 30, pos := "law.go:27", after := #[{ on := 12, ground := Ground.data }, { on := 12, ground := Ground.chain }, { on := 6, ground := Ground.guard }], guard := some (6, true) }) (F := 7) (vs := #[v2, (.slice none 0 0)]) (by kernel_rfl) (by kernel_rfl) (by kernel_rfl) (fun _ => by kernel_rfl) (HA3 _ _ hH5.below hT3) ?_
    rintro e w6 ⟨⟨r3, rfl, hX3⟩, hb6⟩
    have hH6 := hH5.on hb6
    refine ⟨r3, rfl, hH6, ?_⟩
    refine held_callX (i := 16) (o := { dst := some 41, op := Op.call { callee := Callee.value (Operand.func 15), args := #[Operand.tmp 38, Operand.tmp 39, Operand.tmp 40], argTypes := #[30, 24, 26] }, type := 4, pos := "law.go:27", after := #[{ on := 13, ground := Ground.data }, { on := 14, ground := Ground.data }, { on := 15, ground := Ground.data }, { on := 13, ground := Ground.chain }, { on := 6, ground := Ground.guard }], guard := some (6, true) }) (F := 15) (vs := #[r3, .slice (some ⟨w.heap.size, 0, none⟩) 1 1, .agg #[.int .i64 1, .int .i64 5, .string ⟨#[]⟩]]) (by kernel_rfl) (by kernel_rfl) (by kernel_rfl) (fun _ => by kernel_rfl) (hX3.out _ (Below.refl _ _)) ?_
    rintro e w7 ⟨rfl, hb7⟩
    have hH7 := hH6.on hb7
    refine ⟨.bool true, rfl, hH7, ?_⟩
    refine held_take (i := 17) (o := { dst := some 42, op := Op.pick (Operand.tmp 31) (Operand.tmp 41) (Operand.const (Value.bool false)), type := 4, pos := "law.go:27", after := #[{ on := 6, ground := Ground.data }, { on := 16, ground := Ground.data }], guard := none }) (v := .bool true) (by kernel_rfl) (by kernel_rfl) (by kernel_rfl) (by kernel_rfl) (fun _ _ _ h => h) (by kernel_rfl) (fun _ _ => by kernel_rfl) hH7 ?_
    refine held_do (i := 18) (o := { dst := some 0, op := Op.assign (Operand.tmp 42), type := 4, pos := "law.go:27", after := #[{ on := 17, ground := Ground.data }, { on := 16, ground := Ground.chain }, { on := 0, ground := Ground.phase }, { on := 1, ground := Ground.phase }, { on := 2, ground := Ground.phase }, { on := 3, ground := Ground.phase }, { on := 4, ground := Ground.phase }, { on := 5, ground := Ground.phase }, { on := 6, ground := Ground.phase }, { on := 7, ground := Ground.phase }, { on := 8, ground := Ground.phase }, { on := 9, ground := Ground.phase }, { on := 10, ground := Ground.phase }, { on := 11, ground := Ground.phase }, { on := 12, ground := Ground.phase }, { on := 13, ground := Ground.phase }, { on := 14, ground := Ground.phase }, { on := 15, ground := Ground.phase }, { on := 16, ground := Ground.phase }, { on := 17, ground := Ground.phase }], guard := none }) (v := .bool true) (by kernel_rfl) (by kernel_rfl) (by kernel_rfl) (by kernel_rfl) hH7 ?_
    refine wpAnyH_done (by kernel_rfl) ?_ _
    simp only [Act.put, List.setIfInBounds_toArray, List.set_cons_zero, List.set_cons_succ]
    go_wp2
    go_ret
    exact ⟨rfl, bchain k3 hH7.below⟩
end Go.Proofs.Ytjbbhfkbhpagbaa.O
