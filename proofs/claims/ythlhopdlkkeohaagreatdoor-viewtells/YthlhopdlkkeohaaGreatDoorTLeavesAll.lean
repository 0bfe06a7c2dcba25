/- The walk of tree's Leaves · The walks of Compare of transactions, of the search for a place among some that rise, and of Find · The walks of Rises, both sides. -/
import Derived.Test.YthlhopdlkkeohaaGreatDoorTKeysAll
import Derived.Test.YthlhopdlkkeohaaGreatDoorKeysAll
import Derived.Test.YthlhopdlkkeohaaGreatDoorOpMemAll
/- The walk of tree's Leaves. -/
namespace Go.Proofs.YthlhopdlkkeohaaGreatDoor.O
open Go.RowKit

theorem wp_append_one {α : Type} {f : α → List Value} {m by_ : Nat} (hf : ∀ x, (f x).length = m) (hm : 0 < m) {o : Oper} {a : Act} {w : World} {K : Act → World → Prop} {Q : Exit → Act → World → Prop} {ST T : TypeId} {i0 : TypeInfo} {z : Value}
    (hu : Tryz.prog.underlying ST = some (.slice T)) (hi : Tryz.prog.info? T = some i0) (hz : i0.zero = some z) (hz1 : i0.size = m) (hz2 : i0.bytes = by_) (hz3 : z.cells.size = m) (hb9 : by_ ≤ 1000) (s x : Operand)
    (ho : o.op = .call { callee := .builtin .append, args := #[s, x], argTypes := #[ST, ST] }) (B : Nat) (hB : B ≤ w.heap.size) (r : Value) (acc : List α) (hs : a.eval s = r) (hown : w.ownsRow B T m r acc.length (acc.flatMap f))
    (g : Nat) (y : α) (hx : a.eval x = .slice (some ⟨g, 0, none⟩) 1 1) (hv : ∀ j v, (f y)[j]? = some v → w.cell? ((⟨g, 0, none⟩ : Addr).add j) = some v) (hone : ∀ u ∈ f y, u.oneCell' = true) (hn : acc.length + 1 ≤ 1000001)
    (h : ∀ r' w', w'.ownsRow B T m r' (acc ++ [y]).length ((acc ++ [y]).flatMap f) ∧ w.grownBy w' r.ownBlock → K (a.put o.dst r') w') : o.wp Tryz.prog a w K Q := by
  have hby : (acc.length + 1) * by_ ≤ 1000001 * 1000 := Nat.mul_le_mul hn hb9
  refine wp_append_own w s x ST ho B T i0 z m by_ hu hi hz hz1 hz2 hz3 hm r _ _ hs hown ⟨g, 0, none⟩ 1 1 (f y) hx (by rw [hf]; omega) hv hone (by unfold maxLen; omega) (by omega) hB ?_
  intro v' w1 hown' hg _
  refine h v' w1 ⟨?_, hg⟩
  rw [List.flatMap_append, List.length_append]
  simpa using hown'
theorem leafB_any (k : Int) (w : World) : Calls Tryz.prog 72 #[.int .i64 k] w fun e w' => e = .returned (.int .i64 (Os.leaf k)) ∧ Below w.heap.size w w' :=
  (leaf_any k w).mono fun _ _ ⟨a, b⟩ => ⟨a, by rw [b]; exact Below.refl _ _⟩
theorem cloneSl_any (v : Value) (xs : List (List UInt8)) (w : World) (hv : U.strsAt w v xs) (hn : xs.length ≤ 1000000) :
    Calls Tryz.prog 38 #[v] w fun e w' => ∃ ra rn rk, e = .returned (.slice ra rn rk) ∧ w'.ownsRow w.heap.size 9 1 (.slice ra rn rk) xs.length (U.cellsS xs) ∧ Below w.heap.size w w' :=
  (cloneS_any v xs w hv hn).mono fun _ _ ⟨r, a, b, c⟩ => by
    obtain ⟨ra, rn, rk, rfl⟩ := own_slice b
    exact ⟨ra, rn, rk, a, b, c⟩
/-- A loop's variable while a region goes. -/
structure LvS (w : World) (b : Nat) (x : IE) (W : World) : Prop where
  it : IcAt W ⟨b, 0, none⟩ x
  below : Below w.heap.size w W
  low : w.heap.size ≤ W.heap.size
  ty : ∃ cs, W.heap[b]? = some (.cells cs 76 (0, 0))

theorem LvS.on {w : World} {b : Nat} {x : IE} {W W' : World} (h : LvS w b x W) (hb : Below W.heap.size W W') : LvS w b x W' :=
  ⟨h.it.on hb, bchain h.below hb, Nat.le_trans h.low hb.size, by obtain ⟨cs, e⟩ := h.ty; exact ⟨cs, (hb.block b (heap_lt9 e)).trans e⟩⟩
theorem LvS.grown {w : World} {b n : Nat} {x : IE} {W W' : World} {r : Value} {cs : List Value} (h : LvS w b x W) (hg : W.grownBy W' r.ownBlock) (hown : W.ownsRow w.heap.size 85 2 r n cs) : LvS w b x W' := by
  obtain ⟨cs9, e⟩ := h.ty
  have hne : some b ≠ r.ownBlock := own_ne_block hown e (by decide)
  refine ⟨?_, h.below.grown hg h.low (fun g e => (hown.lt g e).1), Nat.le_trans h.low hg.size, ⟨cs9, (hg.block b (heap_lt9 e) hne).trans e⟩⟩
  obtain ⟨c0, c1, c2, c3, c4, c5, c6, c7, c8, c9, c10⟩ := h.it
  exact ⟨hg.cell c0 hne, hg.cell c1 hne, hg.cell c2 hne, hg.cell c3 hne, hg.cell c4 hne, hg.cell c5 hne, hg.cell c6 hne, hg.cell c7 hne, hg.cell c8 hne, hg.cell c9 hne, hg.cell c10 hne⟩
theorem leaf_small (k : Int) : -100 ≤ Os.leaf k ∧ Os.leaf k ≤ 100 := by
  unfold Os.leaf
  split
  · omega
  · split
    · omega
    · split <;> omega
theorem compactLR_any (v : Value) (ds : List LE) (B : Nat) (w0 w : World) (hb : Below B w0 w) (h : rowR lcell 2 w B v ds) (hn : ds.length ≤ 1000000) (hfine : ∀ x ∈ ds, LFine x.1) (hown : ∀ x ∈ ds, LOwn w B x) (hsep : ∀ x ∈ ds, ∀ g, v.ownBlock = some g → x.2.ownBlock ≠ some g) :
    Calls Tryz.prog 75 #[v, .func (.func 76) #[] #[]] w fun e w' => ∃ r zs, e = .returned r ∧ zs.map Prod.fst = Li.thin (ds.map Prod.fst) ∧ (∀ x ∈ zs, x ∈ ds) ∧ lvsE w' r zs ∧ Below B w0 w' := by
  rcases h with ⟨rfl, rfl⟩ | ⟨g, cap, rfl, h2, h3, h4, h5⟩
  · go_enter Tryz.func75, Tryz.ntmps75
    go_wp2
    go_ret
    exact ⟨_, [], rfl, rfl, by simp, lvsE_row (B := B) (.inl ⟨rfl, rfl⟩) (by simp), hb⟩
  · refine (compactL_any g cap ds B w0 w hb h4 h5 hn h2 h3 hfine hown fun x hx => hsep x hx g rfl).mono ?_
    rintro e w' ⟨rfl, hO, hb1, hbt⟩
    have hl := Li.ddK_len (f := Prod.fst) (l := ds) (Nat.le_refl _)
    refine ⟨_, Li.ddK Prod.fst ds ds.length, rfl, ?_, fun x hx => Li.ddK_mem hx, lvsE_row (B := B) (.inr ⟨g, cap, rfl, by omega, h3, h4, hO⟩) fun x hx => LOwn.ok (own_but2 (hown x (Li.ddK_mem hx)) hbt (hsep x (Li.ddK_mem hx) g rfl)), hb1⟩
    rw [Li.ddK_map (Nat.le_refl _), Li.dd_all (by simp)]
theorem thin_leaves {ys : List LE} {ls : List Tr.Leaf} (hp : (ys.map Prod.fst).Perm ls) (hs : ys.Pairwise fun a b => Tr.lcomp a.1 b.1 ≤ 0) : Li.thin (ys.map Prod.fst) = Li.vals Tr.lcomp ls :=
  Li.vals_thin Tr.lord (by rw [List.pairwise_map]; exact hs) fun x => hp.mem_iff

set_option maxRecDepth 20000 in
set_option maxHeartbeats 4000000 in
theorem leavesT_any (v : Value) (xs : List IE) (w : World) (hv : itsE w v xs) (hn : xs.length ≤ 1000000) (hs : ShortI xs) :
    Calls Tryz.prog 35 #[v] w fun e w' => ∃ r zs, e = .returned r ∧ zs.map Prod.fst = Tr.leaves (xs.map (·.1)) ∧ lvsE w' r zs ∧ Below w.heap.size w w' := by
  obtain ⟨ao, cap, rfl⟩ := hv.slice
  obtain ⟨i0, hi0, hz0, hz1, hz2⟩ := linfo77
  obtain ⟨n, hn0⟩ : ∃ n, n = xs.length := ⟨_, rfl⟩
  have HN : Hid (n = xs.length) := hn0
  rw [← hn0] at hv hn ⊢
  have HV : Hid (itsE w (.slice ao n cap) xs) := hv
  have HS : Hid (ShortI xs) := hs
  clear hn0 hv hs
  go_enter Tryz.func35, Tryz.ntmps35
  go_wp2
  go_loopw [3, 5, 8] (fun out _ i wr => ∃ (k : Nat) (acc : List LE), k ≤ n ∧ i = .int .i64 k ∧ Hid (acc.map Prod.fst = (xs.take k).map fun y => Tr.leafOf y.1) ∧ wr.ownsRow w.heap.size 85 2 out acc.length (acc.flatMap lcell) ∧ Hid (∀ x ∈ acc, LOwn wr w.heap.size x) ∧ Below w.heap.size w wr) (fun _ _ i _ => n - (intOf i).toNat)
  case atStart => exact ⟨0, [], by omega, rfl, rfl, World.ownsRow_nil _ _ _ _, fun x hx => by simp at hx, Below.refl _ _⟩
  case round =>
    obtain ⟨k, acc, hk, rfl, HA, hown, HLo, hbw⟩ := hrel
    have hal := congrArg List.length HA.out
    rw [List.length_map, List.length_map, List.length_take] at hal
    have hroom : acc.length + 1 ≤ 1000001 := by omega
    by_cases hkn : k < n
    · have hkx : k < xs.length := by rw [← HN.out]; exact hkn
      obtain ⟨ad, rfl, -, hX, hXi⟩ := (HV.out.on hbw).get hkx
      have hsz := short_sizes (HS.out _ (List.getElem_mem hkx))
      have hpl := (short_parts (HS.out _ (List.getElem_mem hkx))).1.1
      have HE : Hid (∀ rc, (acc ++ [((Tr.leafOf xs[k].1, rc) : LE)]).map Prod.fst = (xs.take (k + 1)).map fun y => Tr.leafOf y.1) := by
        have h : ∀ rc, (acc ++ [((Tr.leafOf xs[k].1, rc) : LE)]).map Prod.fst = (xs.take (k + 1)).map fun y => Tr.leafOf y.1 := fun rc => by
          rw [List.take_succ_eq_append_getElem hkx, List.map_append, List.map_append, HA.out]
          rfl
        exact h
      clear HA hal
      generalize xs[k] = y at *
      obtain ⟨it, pv, sv⟩ := y
      obtain ⟨hpx, hrx⟩ : U.strsAt wr pv it.o.p ∧ refsIn wr sv it.o.l := hXi
      have hsz1 : it.o.p.length ≤ 1000000 := by have h : it.o.p.length ≤ 12 := hpl; omega
      obtain ⟨pa, pn, pc, rfl⟩ := strs_slice hpx
      obtain ⟨sa, sn, sc, rfl⟩ := refs_slice hrx
      obtain ⟨c0, c1, c2, c3, c4, c5, c6, c7, c8, c9, c10⟩ := hX
      have HE : Hid (∀ rc, (acc ++ [(((it.o.p, Os.leaf it.o.k), rc) : LE)]).map Prod.fst = (xs.take (k + 1)).map fun y => Tr.leafOf y.1) := HE
      have bA := below_new wr (.cells (icell ((it, .slice pa pn pc, .slice sa sn sc) : IE)).toArray 76)
      have hBs := Nat.le_trans hbw.size bA.size
      have hty : ∃ cs, (wr.alloc (.cells (icell ((it, .slice pa pn pc, .slice sa sn sc) : IE)).toArray 76)).drew.heap[wr.heap.size]? = some (.cells cs 76 (0, 0)) := ⟨_, heap_alloc_new wr _⟩
      clear hsz hpl hrx
      go_wp2
      refine wp_region_held_drew (S := fun W => LvS w wr.heap.size ((it, .slice pa pn pc, .slice sa sn sc) : IE) W) (by kernel_rfl) (LvS.mk ((IcAt.new wr ((it, .slice pa pn pc, .slice sa sn sc) : IE) 76).on (Below.refl _ _).drew) (bchain hbw bA.drew) hBs hty) (fun hH0 => ?_)
      refine held_take (i := 0) (o := { dst := some 12, op := Op.move (Operand.tmp 3), type := 82, pos := "tree.go:33", after := #[], guard := none }) (v := u3) (by kernel_rfl) (by kernel_rfl) (by kernel_rfl) (by kernel_rfl) (fun _ _ _ h => h) (by kernel_rfl) (fun _ _ => by kernel_rfl) hH0 ?_
      refine held_take (i := 1) (o := { dst := some 13, op := Op.fieldAddr 76 (Operand.tmp 5) 1, type := 0, pos := "tree.go:33", after := #[], guard := none }) (v := .pointer (some ⟨wr.heap.size, 0 + 3, none⟩)) (by kernel_rfl) (by kernel_rfl) (by kernel_rfl) (by kernel_rfl) (fun _ _ _ h => h) (by kernel_rfl) (fun W _ => ex_f_item_1 (p := ⟨wr.heap.size, 0, none⟩) rfl (by kernel_rfl) W) hH0 ?_
      refine held_take (i := 2) (o := { dst := some 14, op := Op.fieldAddr 65 (Operand.tmp 13) 1, type := 0, pos := "tree.go:33", after := #[{ on := 1, ground := Ground.data }], guard := none }) (v := .pointer (some ⟨wr.heap.size, 0 + 4, none⟩)) (by kernel_rfl) (by kernel_rfl) (by kernel_rfl) (by kernel_rfl) (fun _ _ _ h => h) (by kernel_rfl) (fun W _ => ex_f_op_1 (p := ⟨wr.heap.size, 0 + 3, none⟩) rfl (by kernel_rfl) W) hH0 ?_
      refine held_take (i := 3) (o := { dst := some 15, op := Op.load 24 (Operand.tmp 14), type := 24, pos := "tree.go:33", after := #[{ on := 2, ground := Ground.data }], guard := none }) (v := .slice pa pn pc) (by kernel_rfl) (by kernel_rfl) (by kernel_rfl) (by kernel_rfl) (fun _ _ _ h => h) (by kernel_rfl) (fun _ h => ex_l1_strs (p := ⟨wr.heap.size, 0 + 4, none⟩) rfl (by kernel_rfl) (h.it.c4)) hH0 ?_
      refine held_take (i := 5) (o := { dst := some 17, op := Op.fieldAddr 76 (Operand.tmp 5) 1, type := 0, pos := "tree.go:33", after := #[], guard := none }) (v := .pointer (some ⟨wr.heap.size, 0 + 3, none⟩)) (by kernel_rfl) (by kernel_rfl) (by kernel_rfl) (by kernel_rfl) (fun _ _ _ h => h) (by kernel_rfl) (fun W _ => ex_f_item_1 (p := ⟨wr.heap.size, 0, none⟩) rfl (by kernel_rfl) W) hH0 ?_
      refine held_take (i := 6) (o := { dst := some 18, op := Op.fieldAddr 65 (Operand.tmp 17) 0, type := 0, pos := "tree.go:33", after := #[{ on := 5, ground := Ground.data }], guard := none }) (v := .pointer (some ⟨wr.heap.size, 0 + 3, none⟩)) (by kernel_rfl) (by kernel_rfl) (by kernel_rfl) (by kernel_rfl) (fun _ _ _ h => h) (by kernel_rfl) (fun W _ => ex_f_op_0 (p := ⟨wr.heap.size, 0 + 3, none⟩) rfl (by kernel_rfl) W) hH0 ?_
      refine held_take (i := 7) (o := { dst := some 19, op := Op.load 3 (Operand.tmp 18), type := 3, pos := "tree.go:33", after := #[{ on := 6, ground := Ground.data }], guard := none }) (v := .int .i64 (it.o.k : Int)) (by kernel_rfl) (by kernel_rfl) (by kernel_rfl) (by kernel_rfl) (fun _ _ _ h => h) (by kernel_rfl) (fun _ h => ex_l1_int (p := ⟨wr.heap.size, 0 + 3, none⟩) rfl (by kernel_rfl) (h.it.c3)) hH0 ?_
      refine held_callX (i := 4) (o := { dst := some 16, op := Op.call { callee := Callee.value (Operand.func 38), args := #[Operand.tmp 15], argTypes := #[24] }, type := 24, pos := "tree.go:33", after := #[{ on := 3, ground := Ground.data }], guard := none }) (F := 38) (vs := #[.slice pa pn pc]) (by kernel_rfl) (by kernel_rfl) (by kernel_rfl) (fun _ => by kernel_rfl) (cloneSl_any (.slice pa pn pc) it.o.p _ (U.strsAt_below hpx bA.drew (Nat.le_refl _)) hsz1) ?_
      rintro e w1 ⟨ra, rn, rk, rfl, hoc, hb1⟩
      have hH1 := hH0.on hb1
      refine ⟨.slice ra rn rk, rfl, hH1, ?_⟩
      refine held_callX (i := 8) (o := { dst := some 20, op := Op.call { callee := Callee.value (Operand.func 72), args := #[Operand.tmp 19], argTypes := #[3] }, type := 3, pos := "tree.go:33", after := #[{ on := 7, ground := Ground.data }, { on := 4, ground := Ground.chain }], guard := none }) (F := 72) (vs := #[.int .i64 (it.o.k : Int)]) (by kernel_rfl) (by kernel_rfl) (by kernel_rfl) (fun _ => by kernel_rfl) (leafB_any it.o.k _) ?_
      rintro e w2 ⟨rfl, hb2⟩
      have hH2 := hH1.on hb2
      refine ⟨.int .i64 (Os.leaf it.o.k), rfl, hH2, ?_⟩
      refine held_take (i := 9) (o := { dst := some 21, op := Op.build 85 #[(0, Operand.tmp 16), (1, Operand.tmp 20)], type := 85, pos := "tree.go:33", after := #[{ on := 4, ground := Ground.data }, { on := 8, ground := Ground.data }], guard := none }) (v := .agg #[.slice ra rn rk, .int .i64 (Os.leaf it.o.k)]) (by kernel_rfl) (by kernel_rfl) (by kernel_rfl) (by kernel_rfl) (fun _ _ _ h => h) (by kernel_rfl) (fun _ _ => by kernel_rfl) hH2 ?_
      have hH3 := hH2.on (below_new w2 (.cells #[.slice ra rn rk, .int .i64 (Os.leaf it.o.k)] 85))
      have hown9 := own_on hown (bchain bA (bchain (Below.refl _ _).drew (bchain hb1 (bchain hb2 (below_new w2 (.cells #[.slice ra rn rk, .int .i64 (Os.leaf it.o.k)] 85))))))
      have hoc9 := own_on hoc (bchain hb2 (below_new w2 (.cells #[.slice ra rn rk, .int .i64 (Os.leaf it.o.k)] 85)))
      have HLo9 : ∀ x ∈ acc, LOwn (w2.alloc (.cells #[.slice ra rn rk, .int .i64 (Os.leaf it.o.k)] 85)) w.heap.size x := fun x hx => own_on (HLo.out x hx) (bchain bA (bchain (Below.refl _ _).drew (bchain hb1 (bchain hb2 (below_new w2 (.cells #[.slice ra rn rk, .int .i64 (Os.leaf it.o.k)] 85))))))
      refine held_run (i := 10) (o := { dst := some 22, op := Op.buildSlice 82 1 #[(0, Operand.tmp 21)], type := 82, pos := "tree.go:33", after := #[{ on := 9, ground := Ground.data }], guard := none }) (v := .slice (some ⟨w2.heap.size, 0, none⟩) 1 1) (w' := (w2.alloc (.cells #[.slice ra rn rk, .int .i64 (Os.leaf it.o.k)] 85))) (by kernel_rfl) (by kernel_rfl) (by kernel_rfl) (by kernel_rfl) hH3 ?_
      refine held_wp (i := 11) (o := { dst := some 23, op := Op.call { callee := Callee.builtin Builtin.append, args := #[Operand.tmp 12, Operand.tmp 22], argTypes := #[82, 82] }, type := 82, pos := "tree.go:33", after := #[{ on := 0, ground := Ground.data }, { on := 10, ground := Ground.data }, { on := 8, ground := Ground.chain }], guard := none }) (R := fun v' w' => w'.ownsRow w.heap.size 85 2 v' (acc ++ [(((it.o.p, Os.leaf it.o.k), .slice ra rn rk) : LE)]).length ((acc ++ [(((it.o.p, Os.leaf it.o.k), .slice ra rn rk) : LE)]).flatMap lcell) ∧ World.grownBy (w2.alloc (.cells #[.slice ra rn rk, .int .i64 (Os.leaf it.o.k)] 85)) w' u3.ownBlock) (by kernel_rfl) (by kernel_rfl) (by kernel_rfl) (fun K9 Q9 hK9 => wp_append_one (f := lcell) (m := 2) lcell_len (Nat.succ_pos 1) (ST := 82) (T := 85) Tryz.underlying82 hi0 hz0 hz1 hz2 rfl (by decide) _ _ rfl w.heap.size (hH3.low) u3 acc (by kernel_rfl) hown9 w2.heap.size (((it.o.p, Os.leaf it.o.k), .slice ra rn rk) : LE) (by kernel_rfl) (new_cells w2 (lcell (((it.o.p, Os.leaf it.o.k), .slice ra rn rk) : LE)) 85) (lcell_one ⟨_, _, _, rfl⟩) hroom hK9) ?_
      rintro v2 w3 ⟨hown2, hg2⟩
      have hH4 := hH3.grown hg2 hown9
      refine ⟨hH4, ?_⟩
      refine held_do (i := 12) (o := { dst := some 3, op := Op.assign (Operand.tmp 23), type := 82, pos := "tree.go:33", after := #[{ on := 11, ground := Ground.data }, { on := 11, ground := Ground.chain }, { on := 0, ground := Ground.phase }, { on := 1, ground := Ground.phase }, { on := 2, ground := Ground.phase }, { on := 3, ground := Ground.phase }, { on := 4, ground := Ground.phase }, { on := 5, ground := Ground.phase }, { on := 6, ground := Ground.phase }, { on := 7, ground := Ground.phase }, { on := 8, ground := Ground.phase }, { on := 9, ground := Ground.phase }, { on := 10, ground := Ground.phase }, { on := 11, ground := Ground.phase }], guard := none }) (v := v2) (by kernel_rfl) (by kernel_rfl) (by kernel_rfl) (by kernel_rfl) hH4 ?_
      refine wpAnyH_done (by kernel_rfl) ?_ _
      simp only [Act.put, List.setIfInBounds_toArray, List.set_cons_zero, List.set_cons_succ]
      go_wp2
      go_roundw
      case rel => exact ⟨k + 1, acc ++ [(((it.o.p, Os.leaf it.o.k), .slice ra rn rk) : LE)], by omega, by go_num, HE.out (.slice ra rn rk), hown2, fun x hx => by
        rcases List.mem_append.1 hx with hx | hx
        · exact own_grown_other (HLo9 x hx) hg2 (own_types (HLo9 x hx) hown9 (by decide))
        · rw [List.mem_singleton.1 hx]
          exact own_grown_other (own_base hoc9 hBs) hg2 (own_types hoc9 hown9 (by decide)), hH4.below⟩
      case measure => simp [intOf]; omega
    · have HE : Hid (acc.map Prod.fst = (xs.map (·.1)).map Tr.leafOf) := by
        have h := HA.out
        rw [List.take_of_length_le (by rw [← HN.out]; omega)] at h
        rw [List.map_map]
        exact h
      have hfin : ∀ x ∈ acc, LFine x.1 := fun x hx => by
        have h1 : x.1 ∈ acc.map Prod.fst := List.mem_map.2 ⟨x, hx, rfl⟩
        rw [HA.out, List.mem_map] at h1
        obtain ⟨y, hy, e⟩ := h1
        rw [← e]
        have h2 := short_sizes (HS.out y (List.mem_of_mem_take hy))
        exact ⟨leaf_small _, h2.1, h2.2⟩
      have hal9 : acc.length ≤ 1000000 := by omega
      have hsep : ∀ x ∈ acc, ∀ g, u3.ownBlock = some g → x.2.ownBlock ≠ some g := fun x hx => own_types (HLo.out x hx) hown (by decide)
      have HC := sortL_any u3 acc w.heap.size w wr hbw (rowR.of_own lcell_len hown) hfin HLo.out hsep hal9
      have HCC : Hid (∀ ys w1, ys.Perm acc → rowR lcell 2 w1 w.heap.size u3 ys → (∀ x ∈ ys, LOwn w1 w.heap.size x) → Below w.heap.size w w1 → Calls Tryz.prog 75 #[u3, .func (.func 76) #[] #[]] w1 fun e w' => ∃ r zs, e = .returned r ∧ zs.map Prod.fst = Li.thin (ys.map Prod.fst) ∧ (∀ x ∈ zs, x ∈ ys) ∧ lvsE w' r zs ∧ Below w.heap.size w w') := by
        have h : ∀ ys w1, ys.Perm acc → rowR lcell 2 w1 w.heap.size u3 ys → (∀ x ∈ ys, LOwn w1 w.heap.size x) → Below w.heap.size w w1 → Calls Tryz.prog 75 #[u3, .func (.func 76) #[] #[]] w1 fun e w' => ∃ r zs, e = .returned r ∧ zs.map Prod.fst = Li.thin (ys.map Prod.fst) ∧ (∀ x ∈ zs, x ∈ ys) ∧ lvsE w' r zs ∧ Below w.heap.size w w' := fun ys w1 hp h1 h2 h3 =>
          compactLR_any u3 ys w.heap.size w w1 h3 h1 (by rw [hp.length_eq]; exact hal9) (fun x hx => hfin x (hp.mem_iff.1 hx)) h2 (fun x hx => hsep x (hp.mem_iff.1 hx))
        exact h
      have HT : Hid (∀ ys : List LE, ys.Perm acc → (ys.Pairwise fun a b => Tr.lcomp a.1 b.1 ≤ 0) → Li.thin (ys.map Prod.fst) = Tr.leaves (xs.map (·.1))) := by
        have h : ∀ ys : List LE, ys.Perm acc → (ys.Pairwise fun a b => Tr.lcomp a.1 b.1 ≤ 0) → Li.thin (ys.map Prod.fst) = Tr.leaves (xs.map (·.1)) := fun ys hp hs => by
          have h1 := hp.map Prod.fst
          rw [HE.out] at h1
          exact thin_leaves h1 hs
        exact h
      clear HA hown hal hroom hsep hfin
      go_wp2_with (first
        | (go_at_call 73; refine HC.mono ?_; rintro e w1 ⟨rfl, ys, hp1, hs1, hr1, ho1, hb1⟩; have HT1 := HT.out ys hp1 hs1; have HC1 := HCC.out ys w1 hp1 hr1 ho1 hb1; clear hp1 hs1 hr1 ho1)
        | (go_at_call 75; refine HC1.mono ?_; rintro e w2 ⟨r, zs, rfl, hz1, -, hz3, hb2⟩))
      go_ret
      exact ⟨_, zs, rfl, by rw [hz1, HT1], hz3, hb2⟩
end Go.Proofs.YthlhopdlkkeohaaGreatDoor.O

/- The walks of Compare of transactions, of the search for a place among some that rise, and of Find. -/
namespace Go.Proofs.YthlhopdlkkeohaaGreatDoor.O
open Go.RowKit

/-- Where the search stands: all ahead of i are earlier, none from j on is. -/
def TInv (l : List Tx.Txn) (d : D) (i j : Nat) : Prop := i ≤ j ∧ j ≤ l.length ∧ (∀ k (h : k < l.length), k < i → Tx.dlt l[k].d d) ∧ (∀ k (h : k < l.length), j ≤ k → ¬ Tx.dlt l[k].d d)
theorem TInv.start (l : List Tx.Txn) (d : D) : TInv l d 0 l.length := ⟨Nat.zero_le _, Nat.le_refl _, fun _ _ h => absurd h (Nat.not_lt_zero _), fun k h1 h2 => by omega⟩
theorem TInv.up {l : List Tx.Txn} {d : D} {i j h : Nat} (hp : Tx.Rises l) (hI : TInv l d i j) (h1 : i ≤ h) (h2 : h < j) (hh : h < l.length) (hl : Tx.dlt l[h].d d) : TInv l d (h + 1) j := by
  refine ⟨by omega, hI.2.1, fun k hk hk1 => ?_, hI.2.2.2⟩
  by_cases e : k = h
  · subst e; exact hl
  · exact Tx.dlt_trans (List.pairwise_iff_getElem.1 hp k h hk hh (by omega)) hl
theorem TInv.down {l : List Tx.Txn} {d : D} {i j h : Nat} (hp : Tx.Rises l) (hI : TInv l d i j) (h1 : i ≤ h) (h2 : h < j) (hh : h < l.length) (hl : ¬ Tx.dlt l[h].d d) : TInv l d i h := by
  refine ⟨h1, by omega, hI.2.2.1, fun k hk hk1 hlt => ?_⟩
  by_cases e : k = h
  · subst e; exact hl hlt
  · exact hl (Tx.dlt_trans (List.pairwise_iff_getElem.1 hp h k hh hk (by omega)) hlt)
/-- The place, and whether it is there. -/
def Spot (l : List Tx.Txn) (d : D) (i : Nat) (b : Bool) : Prop := TInv l d i i ∧ (b = true ↔ ∃ h : i < l.length, l[i].d = d)
theorem Spot.miss {l : List Tx.Txn} {d : D} {i : Nat} (hI : TInv l d i i) (hi : ¬ i < l.length) : Spot l d i false := ⟨hI, ⟨fun h => (by cases h), fun ⟨h, _⟩ => absurd h hi⟩⟩
theorem Spot.hit {l : List Tx.Txn} {d : D} {i : Nat} (hI : TInv l d i i) (hi : i < l.length) : Spot l d i (decide (l[i].d = d)) := ⟨hI, ⟨fun h => ⟨hi, of_decide_eq_true h⟩, fun ⟨_, h⟩ => decide_eq_true h⟩⟩
theorem dcf_lt (x y : D) : decide (Dt.comp x.1 x.2 y.1 y.2 < 0) = decide (Tx.dlt x y) := by
  rw [decide_eq_decide]; exact Tx.dcomp_lt x y
theorem dcf_eq (x y : D) : decide (Dt.comp x.1 x.2 y.1 y.2 = 0) = decide (x = y) := by
  rw [decide_eq_decide]; exact Tx.dcomp_zero x y
theorem Spot.none {l : List Tx.Txn} {d : D} {i : Nat} (hp : Tx.Rises l) (h : Spot l d i false) : ∀ x ∈ l, x.d ≠ d := by
  intro x hx e
  obtain ⟨k, hk, rfl⟩ := List.mem_iff_getElem.1 hx
  obtain ⟨⟨_, hi, h1, h2⟩, h3⟩ := h
  by_cases a : k < i
  · have := h1 k hk a
    rw [e] at this
    exact Tx.dlt_irrefl _ this
  · by_cases b : k = i
    · subst b
      have := h3.2 ⟨hk, e⟩
      cases this
    · have := List.pairwise_iff_getElem.1 hp i k (by omega) hk (by omega)
      rw [e] at this
      exact h2 i (by omega) (Nat.le_refl _) this
/-- What the place tells. -/
theorem Spot.find {l : List Tx.Txn} {d : D} {i : Nat} {b : Bool} (hp : Tx.Rises l) (h : Spot l d i b) : Tx.find l d = if b = true then (i : Int) else -1 := by
  cases b with
  | false => rw [Tx.find_none (h.none hp)]; rfl
  | true =>
    obtain ⟨hi, e⟩ := h.2.1 rfl
    rw [Tx.find_at hp hi e]; rfl
theorem put_at {t : Tx.Txn} : ∀ {l : List Tx.Txn} {i : Nat}, i ≤ l.length → (∀ k (h : k < l.length), k < i → Tx.dlt l[k].d t.d) → (∀ h : i < l.length, Tx.dlt t.d l[i].d) → Tx.put l t = l.take i ++ t :: l.drop i
  | [], i, h, _, _ => by obtain rfl : i = 0 := by simpa using h
                         rfl
  | y :: r, 0, _, _, h => by
    have h0 := h (by simp)
    simp only [List.getElem_cons_zero] at h0
    unfold Tx.put
    rw [if_neg (Tx.dlt_ne h0), if_pos h0]
    rfl
  | y :: r, i + 1, h, h1, h2 => by
    have h0 := h1 0 (by simp) (by omega)
    simp only [List.getElem_cons_zero] at h0
    unfold Tx.put
    rw [if_neg (fun e => Tx.dlt_ne h0 e.symm), if_neg (fun q => Tx.dlt_irrefl _ (Tx.dlt_trans q h0))]
    rw [put_at (i := i) (by simpa using h) (fun k hk hki => by have := h1 (k + 1) (by simpa using hk) (by omega); simpa using this) (fun hi => by have := h2 (by simpa using hi); simpa using this)]
    rfl
theorem Spot.put {l : List Tx.Txn} {t : Tx.Txn} {i : Nat} (hp : Tx.Rises l) (h : Spot l t.d i false) : Tx.put l t = l.take i ++ t :: l.drop i := by
  refine put_at h.1.2.1 h.1.2.2.1 fun hi => ?_
  have h1 := h.1.2.2.2 i hi (Nat.le_refl _)
  have h2 := h.none hp _ (List.getElem_mem hi)
  rcases Tx.dlt_total l[i].d t.d with q | q | q
  · exact absurd q h1
  · exact absurd q h2
  · exact q
theorem Spot.same {l : List Tx.Txn} {t : Tx.Txn} {i : Nat} (hp : Tx.Rises l) (h : Spot l t.d i true) : Tx.put l t = l := by
  obtain ⟨hi, e⟩ := h.2.1 rfl
  exact Tx.put_same hp ⟨_, List.getElem_mem hi, e⟩
theorem ret_pair {x : Value} {a b : Bool} (h : a = b) : Ending.returned (.tuple #[x, .bool a]) = .returned (.tuple #[x, .bool b]) := by rw [h]

end Go.Proofs.YthlhopdlkkeohaaGreatDoor.O
/- The walks of Rises, both sides. -/
namespace Go.Proofs.YthlhopdlkkeohaaGreatDoor.O
open Go.RowKit

theorem rises_one (l : List Tx.Txn) : Tx.Rises (l.take 1) := by
  cases l with
  | nil => exact List.Pairwise.nil
  | cons a r => exact List.pairwise_singleton _ _
theorem rises_all {l : List Tx.Txn} {h : Nat} (hp : Tx.Rises (l.take h)) (hh : ¬ h < l.length) : Tx.rises l = true := by
  rw [List.take_of_length_le (by omega)] at hp
  exact Tx.rises_iff.2 hp

set_option maxRecDepth 20000 in
set_option maxHeartbeats 2000000 in
theorem refTrises_any (v : Value) (l : List Tx.Txn) (w : World) (hv : txsIn w v l) (hn : l.length ≤ 1000000) :
    Calls Tryz.prog 60 #[v] w fun e w' => e = .returned (.bool (Tx.rises l)) ∧ Below w.heap.size w w' := by
  obtain ⟨ao, c, rfl, _, _, hc⟩ := hv
  have HC : Hid (∀ k (h : k < l.length), ∃ ad ov, ao = some ad ∧ TcAt w (ad.add (k * 6)) l[k] ov ∧ opsIn w ov l[k].ops) := hc
  clear hc
  obtain ⟨m, hm⟩ : ∃ m, m = l.length := ⟨_, rfl⟩
  have HM : Hid (m = l.length) := hm
  have HS : Hid (Tx.Rises (l.take 1)) := by have h := rises_one l; exact h
  rw [← hm] at hn ⊢
  clear hm
  go_enter Tryz.func60, Tryz.ntmps60
  go_wp2
  go_loopw [3] (fun i wr => ∃ h : Nat, 1 ≤ h ∧ (h = 1 ∨ h ≤ m) ∧ i = .int .i64 h ∧ Hid (Tx.Rises (l.take h)) ∧ Below w.heap.size w wr) (fun i _ => m - (intOf i).toNat)
  case atStart => exact ⟨1, by omega, .inl rfl, rfl, HS, Below.refl _ _⟩
  case round =>
    clear HS
    obtain ⟨h, hge, hle, rfl, HS, hbw⟩ := hrel
    by_cases hlt : h < m
    · obtain ⟨j, hj⟩ : ∃ j, h = j + 1 := ⟨h - 1, by omega⟩
      have HJ : Hid (h = j + 1) := hj
      have hsub : (h : Int) - 1 = (j : Int) := by omega
      have hkx : h < l.length := by have := HM.out; omega
      have hjx : j < l.length := by omega
      obtain ⟨ad, ov, rfl, hA, -⟩ := HC.out j hjx
      obtain ⟨ad', ov', e, hB, -⟩ := HC.out h hkx
      obtain rfl : ad = ad' := Option.some.inj e
      obtain ⟨c0, c1, -, -, -, -⟩ := hA.on hbw
      obtain ⟨d0, d1, -, -, -, -⟩ := hB.on hbw
      have hi0 : (0 : Int) ≤ (j : Int) := by omega
      have hi1 : (j : Int) < (m : Int) := by omega
      have hi2 : (0 : Int) ≤ (h : Int) := by omega
      have hi3 : (h : Int) < (m : Int) := by omega
      have hwr : IntKind.i64.wrap ((h : Int) - 1) = (j : Int) := by rw [hsub]; simp [IntKind.wrap, IntKind.bits, IntKind.signed]; omega
      have hwj : IntKind.i64.wrap (j : Int) = (j : Int) := by simp [IntKind.wrap, IntKind.bits, IntKind.signed]; omega
      have HQ := fun W => D.refComp_any l[j].d.1 l[j].d.2 l[h].d.1 l[h].d.2 W
      clear hA hB e
      by_cases hl : Tx.dlt l[j].d l[h].d
      · have HS' : Hid (Tx.Rises (l.take (h + 1))) := by
          have k := Tx.rises_step HS.out hkx (.inr ⟨by omega, by
            have e : h - 1 = j := by omega
            simp only [e]
            exact hl⟩)
          exact k
        have hz : Dt.comp l[j].d.1 l[j].d.2 l[h].d.1 l[h].d.2 = -1 := (Tx.dcomp_neg _ _).2 hl
        rw [hz] at HQ
        clear hz hl HS hj hge hle
        generalize l[j] = x at *
        generalize l[h] = y at *
        go_wp2
        go_region_held3 (fun W => W.cell? (ad.add (j * 6)) = some (.int .i64 x.d.1) ∧ W.cell? ⟨(ad.add (j * 6)).block, (ad.add (j * 6)).off + 1, none⟩ = some (.int .i64 x.d.2) ∧ W.cell? (ad.add (h * 6)) = some (.int .i64 y.d.1) ∧ W.cell? ⟨(ad.add (h * 6)).block, (ad.add (h * 6)).off + 1, none⟩ = some (.int .i64 y.d.2) ∧ Below wr.heap.size wr W)
          (first | exact ⟨c0, c1, d0, d1, (Below.refl _ _).drew⟩ | go_keep | (refine ⟨keep_cell hb ?_, keep_cell hb ?_, keep_cell hb ?_, keep_cell hb ?_, bchain ?_ hb⟩ <;> go_keep))
          (first | (go_at_call 100; refine (HQ _).mono ?_; rintro e w1 ⟨rfl, hb⟩))
        have hbx : Below wr.heap.size wr w1 := bchain (Below.refl _ _).drew hb
        go_wp2
        go_roundw
        case rel => exact ⟨h + 1, by omega, .inr (by omega), by go_num, HS', bchain hbw hbx⟩
        case measure => simp [intOf]; omega
      · have HL : Hid (Tx.rises l = false) := by
          have k : Tx.rises l = false := Tx.not_rises (k := j) (by omega) (by
            have e : j + 1 = h := by omega
            simp only [e]
            exact hl)
          exact k
        have hz : ¬ Dt.comp l[j].d.1 l[j].d.2 l[h].d.1 l[h].d.2 = -1 := fun q => hl ((Tx.dcomp_neg _ _).1 q)
        have hz0 : (0 : Int) ≤ Dt.comp l[j].d.1 l[j].d.2 l[h].d.1 l[h].d.2 := by
          have := Dt.comp_cases l[j].d.1 l[j].d.2 l[h].d.1 l[h].d.2
          omega
        clear hl HS hj hge hle
        generalize Dt.comp l[j].d.1 l[j].d.2 l[h].d.1 l[h].d.2 = z at *
        generalize l[j] = x at *
        generalize l[h] = y at *
        have hzb : (z != -1) = true := by simpa using hz
        clear hz
        go_wp2
        go_region_held3 (fun W => W.cell? (ad.add (j * 6)) = some (.int .i64 x.d.1) ∧ W.cell? ⟨(ad.add (j * 6)).block, (ad.add (j * 6)).off + 1, none⟩ = some (.int .i64 x.d.2) ∧ W.cell? (ad.add (h * 6)) = some (.int .i64 y.d.1) ∧ W.cell? ⟨(ad.add (h * 6)).block, (ad.add (h * 6)).off + 1, none⟩ = some (.int .i64 y.d.2) ∧ Below wr.heap.size wr W)
          (first | exact ⟨c0, c1, d0, d1, (Below.refl _ _).drew⟩ | go_keep | (refine ⟨keep_cell hb ?_, keep_cell hb ?_, keep_cell hb ?_, keep_cell hb ?_, bchain ?_ hb⟩ <;> go_keep))
          (first | (go_at_call 100; refine (HQ _).mono ?_; rintro e w1 ⟨rfl, hb⟩))
        have hbx : Below wr.heap.size wr w1 := bchain (Below.refl _ _).drew hb
        go_wp2
        go_ret
        exact ⟨ret_bool HL.out.symm, bchain hbw hbx⟩
    · have HL : Hid (Tx.rises l = true) := by
        have k := rises_all HS.out (by have := HM.out; omega)
        exact k
      clear hle
      go_wp2
      go_ret
      exact ⟨ret_bool HL.out.symm, hbw⟩
end Go.Proofs.YthlhopdlkkeohaaGreatDoor.O
