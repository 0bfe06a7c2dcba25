/- The walk of Union. -/
import Derived.Test.YtenfbjlmfdiniaaRefOf
namespace Go.Proofs.Ytenfbjlmfdiniaa
open Go.RowKit Go.Shelf

/-- What holds while Union's statement is walked. -/
structure US (w : World) (l : List Int) (v : Value) (m : List Int) (u : Value) (W : World) : Prop where
  fst : SetAt W w.heap.size l v
  snd : SetAt W (w.heap.size + 1) m u
  low : w.heap.size + 1 + 1 < W.heap.size
  below : Below w.heap.size w W
theorem US.on {w : World} {l : List Int} {v : Value} {m : List Int} {u : Value} {W W' : World} (h : US w l v m u W) (hb : Below W.heap.size W W') : US w l v m u W' :=
  ⟨h.fst.on hb, h.snd.on hb, Nat.lt_of_lt_of_le h.low hb.size, bchain h.below hb⟩
theorem exec_two {o : Oper} {a : Act} {x y : Operand} {ao bo : Option Addr} {na ca nb cb : Nat} (ho : o.op = .buildSlice 95 2 #[(0, x), (1, y)]) (hx : a.eval x = .slice ao na ca) (hy : a.eval y = .slice bo nb cb) (W : World) :
    (execOp a.eval o).run Try.prog W = .ok (.value (.slice (some ⟨W.heap.size, 0, none⟩) 2 2)) (W.alloc (.cells #[.slice ao na ca, .slice bo nb cb] 24)) := by
  have hb : (Instr.buildSlice 95 2 #[(0, .slice ao na ca), (1, .slice bo nb cb)]).run Try.prog W = .ok (.slice (some ⟨W.heap.size, 0, none⟩) 2 2) (W.alloc (.cells #[.slice ao na ca, .slice bo nb cb] 24)) := by kernel_rfl
  unfold execOp
  simp only [ho, List.map_toArray, List.map_cons, List.map_nil, hx, hy, Sem.run_bind, hb, Result.andThen_ok, Sem.run_pure]

theorem join_right {l m : List Int} (h : l.length = m.length) (hl : Vc.right l = true) (hm : Vc.right m = true) : Vc.right (Vc.join l m) = true := by
  rw [Vc.right_iff] at *
  intro k hk
  rw [Vc.join_length] at hk
  rw [Vc.join_at l m k hk]
  have h1 := hl k hk
  have h2 := hm k (by omega)
  omega

set_option maxRecDepth 20000 in
set_option maxHeartbeats 1000000 in
theorem union_any (l m : List Int) (hl : l.length = 16) (hm : m.length = 16) (hlr : Vc.right l = true) (hmr : Vc.right m = true) (v u : Value) (ds es : List D) (w : World) (hd : dotsIn w v ds) (he : dotsIn w u es) (hn : ds.length + es.length ≤ 1000) :
    Calls Try.prog 22 #[setV l v, setV m u] w fun e w' => ∃ sl, e = .returned (setV (settled (Vc.join l m) (ds ++ es)).1 sl) ∧ dotsIn w' sl (settled (Vc.join l m) (ds ++ es)).2 ∧ Below w.heap.size w w' := by
  have hj : (Vc.join l m).length = 16 := by rw [Vc.join_length]; exact hl
  have hjr := join_right (hl.trans hm.symm) hlr hmr
  have hls := (settled_is (ds ++ es) hj hjr).1.1.len
  have HJ := fun W => join_vec l m hl hm W
  have HSET : ∀ (W : World) (lv : Value), listsIn W lv [v, u] → dotsIn W v ds → dotsIn W u es → Calls Try.prog 53 #[vecV (Vc.join l m), lv] W fun e w' => ∃ sl, e = .returned (setV (settled (Vc.join l m) (ds ++ es)).1 sl) ∧ w'.ownsRow W.heap.size 28 2 sl (settled (Vc.join l m) (ds ++ es)).2.length (dcells (settled (Vc.join l m) (ds ++ es)).2) ∧ Below W.heap.size W w' := fun W lv h1 h2 h3 => by
    have h := settle_any (Vc.join l m) hj hjr lv [v, u] [ds, es] W h1 (dots_two h2 h3) (by simp) (by simp; omega)
    rw [show [ds, es].flatten = ds ++ es by simp] at h
    exact h
  generalize settled (Vc.join l m) (ds ++ es) = SS at *
  obtain ⟨ls, ms⟩ := SS
  simp only at hls HSET ⊢
  have hZ := SetAt.zero ((w.alloc (.cells (setC l v).toArray 26)).alloc (.cells (setC m u).toArray 26))
  obtain ⟨W0, hW0⟩ : ∃ W0, W0 = ((w.alloc (.cells (setC l v).toArray 26)).alloc (.cells (setC m u).toArray 26)).alloc (.cells (setC noughts (.slice none 0 0)).toArray 26) := ⟨_, rfl⟩
  have hB0 : Below w.heap.size w W0 := by rw [hW0]; exact bchain (below_new2 _ _ _) (below_new _ _)
  have hR0 : SetAt W0 (w.heap.size + 1 + 1) noughts (.slice none 0 0) := by rw [hW0]; simpa using hZ
  have hUS : US w l v m u W0.drew := ⟨by rw [hW0]; exact ((SetAt.new w l v).alloc _).alloc _, by
    rw [hW0]
    have := (SetAt.new (w.alloc (.cells (setC l v).toArray 26)) m u).alloc (.cells (setC noughts (.slice none 0 0)).toArray 26)
    exact SetAt.drew (by simpa using this), by rw [hW0]; simp, hB0.drew⟩
  obtain ⟨ao, na, ca, rfl⟩ := hd.sl
  obtain ⟨bo, nb, cb, rfl⟩ := he.sl
  clear hZ
  go_enter Try.func22, Try.ntmps22
  go_wp2_with fail
  change Code.wp Try.prog _ _ _ (((w.alloc (.cells (setC l (.slice ao na ca)).toArray 26)).alloc (.cells (setC m (.slice bo nb cb)).toArray 26)).alloc (.cells (setC noughts (.slice none 0 0)).toArray 26))
  rw [← hW0]
  clear hW0
  refine wp_region_held_drew (S := US w l (.slice ao na ca) m (.slice bo nb cb)) (by kernel_rfl) (hUS) (fun hH0 => ?_)
  refine held_take (i := 0) (o := { dst := some 5, op := Op.fieldAddr 26 (Operand.tmp 2) 0, type := 0, pos := "dots.go:63", after := #[], guard := none }) (v := .pointer (some ⟨w.heap.size, 0, none⟩)) (by kernel_rfl) (by kernel_rfl) (by kernel_rfl) (by kernel_rfl) (fun _ _ _ h => h) (by kernel_rfl) (fun _ _ => by kernel_rfl) hH0 ?_
  refine held_take (i := 1) (o := { dst := some 6, op := Op.load 23 (Operand.tmp 5), type := 23, pos := "dots.go:63", after := #[{ on := 0, ground := Ground.data }], guard := none }) (v := vecV l) (by kernel_rfl) (by kernel_rfl) (by kernel_rfl) (by kernel_rfl) (fun _ _ _ h => h) (by kernel_rfl) (fun _ h => exec_setVec rfl hl (by kernel_rfl) h.fst) hH0 ?_
  refine held_take (i := 2) (o := { dst := some 7, op := Op.fieldAddr 26 (Operand.tmp 3) 0, type := 0, pos := "dots.go:63", after := #[], guard := none }) (v := .pointer (some ⟨w.heap.size + 1, 0, none⟩)) (by kernel_rfl) (by kernel_rfl) (by kernel_rfl) (by kernel_rfl) (fun _ _ _ h => h) (by kernel_rfl) (fun _ _ => by kernel_rfl) hH0 ?_
  refine held_take (i := 3) (o := { dst := some 8, op := Op.load 23 (Operand.tmp 7), type := 23, pos := "dots.go:63", after := #[{ on := 2, ground := Ground.data }], guard := none }) (v := vecV m) (by kernel_rfl) (by kernel_rfl) (by kernel_rfl) (by kernel_rfl) (fun _ _ _ h => h) (by kernel_rfl) (fun _ h => exec_setVec rfl hm (by kernel_rfl) h.snd) hH0 ?_
  refine held_take (i := 5) (o := { dst := some 10, op := Op.fieldAddr 26 (Operand.tmp 2) 1, type := 0, pos := "dots.go:63", after := #[], guard := none }) (v := .pointer (some ⟨w.heap.size, 16, none⟩)) (by kernel_rfl) (by kernel_rfl) (by kernel_rfl) (by kernel_rfl) (fun _ _ _ h => h) (by kernel_rfl) (fun _ _ => by kernel_rfl) hH0 ?_
  refine held_take (i := 6) (o := { dst := some 11, op := Op.load 24 (Operand.tmp 10), type := 24, pos := "dots.go:63", after := #[{ on := 5, ground := Ground.data }], guard := none }) (v := .slice ao na ca) (by kernel_rfl) (by kernel_rfl) (by kernel_rfl) (by kernel_rfl) (fun _ _ _ h => h) (by kernel_rfl) (fun _ h => exec_more rfl (by kernel_rfl) (h.fst.more hl)) hH0 ?_
  refine held_take (i := 7) (o := { dst := some 12, op := Op.fieldAddr 26 (Operand.tmp 3) 1, type := 0, pos := "dots.go:63", after := #[], guard := none }) (v := .pointer (some ⟨w.heap.size + 1, 16, none⟩)) (by kernel_rfl) (by kernel_rfl) (by kernel_rfl) (by kernel_rfl) (fun _ _ _ h => h) (by kernel_rfl) (fun _ _ => by kernel_rfl) hH0 ?_
  refine held_take (i := 8) (o := { dst := some 13, op := Op.load 24 (Operand.tmp 12), type := 24, pos := "dots.go:63", after := #[{ on := 7, ground := Ground.data }], guard := none }) (v := .slice bo nb cb) (by kernel_rfl) (by kernel_rfl) (by kernel_rfl) (by kernel_rfl) (fun _ _ _ h => h) (by kernel_rfl) (fun _ h => exec_more rfl (by kernel_rfl) (h.snd.more hm)) hH0 ?_
  refine wpAnyH_ready (rs := [4, 9]) (by kernel_rfl) (by simp) (AllReadyH.cons (o := { dst := some 9, op := Op.call { callee := Callee.value (Operand.func 56), args := #[Operand.tmp 6, Operand.tmp 8], argTypes := #[23, 23] }, type := 23, pos := "dots.go:63", after := #[{ on := 1, ground := Ground.data }, { on := 3, ground := Ground.data }], guard := none }) (by kernel_rfl) (fun K hK => ?_) (AllReadyH.cons (o := { dst := some 14, op := Op.buildSlice 95 2 #[(0, Operand.tmp 11), (1, Operand.tmp 13)], type := 95, pos := "dots.go:63", after := #[{ on := 6, ground := Ground.data }, { on := 8, ground := Ground.data }], guard := none }) (by kernel_rfl) (fun K hK => ?_) AllReadyH.nil))
  · rw [if_pos (by kernel_rfl), Oper.wp, show ∀ W, (execOp _ _).run Try.prog W = .ok (.enter 56 #[vecV l, vecV m]) W from fun W => by kernel_rfl]
    refine (HJ _).mono ?_
    rintro e w1 ⟨rfl, hb1⟩
    have hH1 := hH0.on hb1
    have hR1 : SetAt w1 (w.heap.size + 1 + 1) noughts (.slice none 0 0) := hR0.on (bchain (Below.refl _ _).drew hb1)
    refine hK.out _ _ hH1 (fun _ => ?_)
    refine wpAnyH_ready (rs := [9]) (by kernel_rfl) (by simp) (AllReadyH.cons (o := { dst := some 14, op := Op.buildSlice 95 2 #[(0, Operand.tmp 11), (1, Operand.tmp 13)], type := 95, pos := "dots.go:63", after := #[{ on := 6, ground := Ground.data }, { on := 8, ground := Ground.data }], guard := none }) (by kernel_rfl) (fun K hK => ?_) AllReadyH.nil)
    rw [if_pos (by kernel_rfl), Oper.wp, exec_two rfl (by kernel_rfl) (by kernel_rfl) w1]
    have hH2 := hH1.on (below_new w1 (.cells #[.slice ao na ca, .slice bo nb cb] 24))
    have hR2 := hR1.alloc (.cells #[.slice ao na ca, .slice bo nb cb] 24)
    refine hK.out _ _ hH2 (fun _ => ?_)
    refine held_callX (i := 10) (o := { dst := some 15, op := Op.call { callee := Callee.value (Operand.func 53), args := #[Operand.tmp 9, Operand.tmp 14], argTypes := #[23, 95] }, type := 26, pos := "dots.go:63", after := #[{ on := 4, ground := Ground.data }, { on := 9, ground := Ground.data }, { on := 4, ground := Ground.chain }], guard := none }) (F := 53) (vs := #[vecV (Vc.join l m), .slice (some ⟨w1.heap.size, 0, none⟩) 2 2]) (by kernel_rfl) (by kernel_rfl) (by kernel_rfl) (fun _ => by kernel_rfl) (HSET _ _ (lists_two w1 _ _) (hd.on hH2.below) (he.on hH2.below)) ?_
    rintro e w5 ⟨sl, rfl, hd5, hb5⟩
    have hH5 := hH2.on hb5
    have hR5 := hR2.on hb5
    refine ⟨_, rfl, hH5, ?_⟩
    have hbx := below_setRow hH5.below (b := w.heap.size + 1 + 1) (by omega) (setC ls sl).toArray
    refine held_store (i := 11) (o := { dst := none, op := Op.store 26 (Operand.tmp 4) (Operand.tmp 15), type := 0, pos := "dots.go:63", after := #[{ on := 10, ground := Ground.data }, { on := 10, ground := Ground.chain }, { on := 0, ground := Ground.phase }, { on := 1, ground := Ground.phase }, { on := 2, ground := Ground.phase }, { on := 3, ground := Ground.phase }, { on := 4, ground := Ground.phase }, { on := 5, ground := Ground.phase }, { on := 6, ground := Ground.phase }, { on := 7, ground := Ground.phase }, { on := 8, ground := Ground.phase }, { on := 9, ground := Ground.phase }, { on := 10, ground := Ground.phase }], guard := none }) (by kernel_rfl) (by kernel_rfl) (by kernel_rfl) _ _ rfl (w.heap.size + 1 + 1) ls noughts sl (.slice none 0 0) hls noughts_length (own_sl hd5) (by kernel_rfl) (by kernel_rfl) hR5 ⟨(setRow_other w5 _ _ _ (by omega)).trans hH5.fst, (setRow_other w5 _ _ _ (by omega)).trans hH5.snd, by rw [setRow_size]; exact hH5.low, hbx⟩ ?_
    refine wpAnyH_done (by kernel_rfl) ?_ _
    simp only [Act.put, List.setIfInBounds_toArray, List.set_cons_zero, List.set_cons_succ]
    have hlow := hH2.low
    have hfin : dotsIn (w5.setRow (w.heap.size + 1 + 1) (setC ls sl).toArray) sl ms := dotsIn_own (own_other hd5 fun q hq => setRow_other w5 _ q _ (by omega))
    go_wp2
    exact bodyPost_ret (ret_set rfl _ hls rfl (hR5.row ls sl)) rfl ⟨sl, rfl, hfin, hbx⟩
  · rw [if_pos (by kernel_rfl), Oper.wp, exec_two rfl (by kernel_rfl) (by kernel_rfl) W0.drew]
    have hH1 := hH0.on (below_new W0.drew (.cells #[.slice ao na ca, .slice bo nb cb] 24))
    have hR1 : SetAt (W0.drew.alloc (.cells #[.slice ao na ca, .slice bo nb cb] 24)) (w.heap.size + 1 + 1) noughts (.slice none 0 0) := hR0.drew.alloc (.cells #[.slice ao na ca, .slice bo nb cb] 24)
    have hL1 := lists_two W0.drew (.slice ao na ca) (.slice bo nb cb)
    refine hK.out _ _ hH1 (fun _ => ?_)
    refine wpAnyH_ready (rs := [4]) (by kernel_rfl) (by simp) (AllReadyH.cons (o := { dst := some 9, op := Op.call { callee := Callee.value (Operand.func 56), args := #[Operand.tmp 6, Operand.tmp 8], argTypes := #[23, 23] }, type := 23, pos := "dots.go:63", after := #[{ on := 1, ground := Ground.data }, { on := 3, ground := Ground.data }], guard := none }) (by kernel_rfl) (fun K hK => ?_) AllReadyH.nil)
    rw [if_pos (by kernel_rfl), Oper.wp, show ∀ W, (execOp _ _).run Try.prog W = .ok (.enter 56 #[vecV l, vecV m]) W from fun W => by kernel_rfl]
    refine (HJ _).mono ?_
    rintro e w1 ⟨rfl, hb1⟩
    have hH2 := hH1.on hb1
    have hR2 := hR1.on hb1
    have hL2 : listsIn w1 (.slice (some ⟨W0.drew.heap.size, 0, none⟩) 2 2) [.slice ao na ca, .slice bo nb cb] := by
      obtain ⟨b, cap, e1, hc⟩ := hL1
      exact ⟨b, cap, e1, fun k hk => keep_cell hb1 (hc k hk)⟩
    refine hK.out _ _ hH2 (fun _ => ?_)
    refine held_callX (i := 10) (o := { dst := some 15, op := Op.call { callee := Callee.value (Operand.func 53), args := #[Operand.tmp 9, Operand.tmp 14], argTypes := #[23, 95] }, type := 26, pos := "dots.go:63", after := #[{ on := 4, ground := Ground.data }, { on := 9, ground := Ground.data }, { on := 4, ground := Ground.chain }], guard := none }) (F := 53) (vs := #[vecV (Vc.join l m), .slice (some ⟨W0.drew.heap.size, 0, none⟩) 2 2]) (by kernel_rfl) (by kernel_rfl) (by kernel_rfl) (fun _ => by kernel_rfl) (HSET _ _ hL2 (hd.on hH2.below) (he.on hH2.below)) ?_
    rintro e w5 ⟨sl, rfl, hd5, hb5⟩
    have hH5 := hH2.on hb5
    have hR5 := hR2.on hb5
    refine ⟨_, rfl, hH5, ?_⟩
    have hbx := below_setRow hH5.below (b := w.heap.size + 1 + 1) (by omega) (setC ls sl).toArray
    refine held_store (i := 11) (o := { dst := none, op := Op.store 26 (Operand.tmp 4) (Operand.tmp 15), type := 0, pos := "dots.go:63", after := #[{ on := 10, ground := Ground.data }, { on := 10, ground := Ground.chain }, { on := 0, ground := Ground.phase }, { on := 1, ground := Ground.phase }, { on := 2, ground := Ground.phase }, { on := 3, ground := Ground.phase }, { on := 4, ground := Ground.phase }, { on := 5, ground := Ground.phase }, { on := 6, ground := Ground.phase }, { on := 7, ground := Ground.phase }, { on := 8, ground := Ground.phase }, { on := 9, ground := Ground.phase }, { on := 10, ground := Ground.phase }], guard := none }) (by kernel_rfl) (by kernel_rfl) (by kernel_rfl) _ _ rfl (w.heap.size + 1 + 1) ls noughts sl (.slice none 0 0) hls noughts_length (own_sl hd5) (by kernel_rfl) (by kernel_rfl) hR5 ⟨(setRow_other w5 _ _ _ (by omega)).trans hH5.fst, (setRow_other w5 _ _ _ (by omega)).trans hH5.snd, by rw [setRow_size]; exact hH5.low, hbx⟩ ?_
    refine wpAnyH_done (by kernel_rfl) ?_ _
    simp only [Act.put, List.setIfInBounds_toArray, List.set_cons_zero, List.set_cons_succ]
    have hlow := hH2.low
    have hfin : dotsIn (w5.setRow (w.heap.size + 1 + 1) (setC ls sl).toArray) sl ms := dotsIn_own (own_other hd5 fun q hq => setRow_other w5 _ q _ (by omega))
    go_wp2
    exact bodyPost_ret (ret_set rfl _ hls rfl (hR5.row ls sl)) rfl ⟨sl, rfl, hfin, hbx⟩
end Go.Proofs.Ytenfbjlmfdiniaa
