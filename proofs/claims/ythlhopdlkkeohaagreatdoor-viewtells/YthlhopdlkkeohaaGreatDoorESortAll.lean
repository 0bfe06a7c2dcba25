/- slices.SortFunc over items, by view's compare; a part of a slice of items; rows that a call made, while another one grows · The walk of view's At: what is at a leaf; its path and its values are rows of the call's own. -/
import Derived.Test.YthlhopdlkkeohaaGreatDoorECmp
import Derived.Test.YthlhopdlkkeohaaGreatDoorValMemAll
import Derived.Test.YthlhopdlkkeohaaGreatDoorCRefAll
/- slices.SortFunc over items, by view's compare; a part of a slice of items; rows that a call made, while another one grows. -/
namespace Go.Proofs.YthlhopdlkkeohaaGreatDoor.O
open Go.RowKit Go.Shelf

def cfI {n : Nat} (e : Fin n → IE) (i j : Fin n) : Int := Tr.lcomp (Tr.leafOf (e i).1) (Tr.leafOf (e j).1)
theorem swoI {n : Nat} (e : Fin n → IE) : Go.Sort.SWO (ltOf (cfI e)) where
  irrefl i := by
    unfold ltOf cfI
    rw [decide_eq_false_iff_not]
    exact Tr.lord.irrefl _
  trans i j k h1 h2 := by
    unfold ltOf cfI at *
    rw [decide_eq_true_eq] at *
    exact Tr.lord.trans _ _ _ h1 h2
  ntrans i j k h1 h2 := by
    unfold ltOf cfI at *
    rw [decide_eq_false_iff_not] at *
    intro q
    rcases Tr.lord.tri (Tr.leafOf (e i).1) (Tr.leafOf (e j).1) with t | ⟨t, _⟩ | ⟨t, _⟩
    · exact h1 t
    · rw [t] at q; exact h2 q
    · exact h2 (Tr.lord.trans _ _ _ t q)
theorem egI : ∀ args w, (callFunc 34 args).run Tryz.prog w = .ok (.enter 34 args) w := enters_of Tryz.func34 (by kernel_rfl) rfl
theorem sortI_any (v : Value) (xs : List IE) (w0 w : World) (hb : Below w0.heap.size w0 w) (h : rowR icell 11 w w0.heap.size v xs) (hok : ∀ x ∈ xs, IOk w0 x) (hs : ShortI xs) (hn : xs.length ≤ 1000000) :
    Calls Tryz.prog 33 #[v, .func (.func 34) #[] #[]] w fun e w' => e = .returned (.tuple #[]) ∧ ∃ ys : List IE, ys.Perm xs ∧ (ys.Pairwise fun a b => Tr.lcomp (Tr.leafOf a.1) (Tr.leafOf b.1) ≤ 0) ∧ rowR icell 11 w' w0.heap.size v ys ∧ Below w0.heap.size w0 w' := by
  by_cases h0 : xs = []
  · subst h0
    obtain ⟨ao, cap, rfl⟩ := h.slice
    have k : Calls Tryz.prog 33 #[.slice ao 0 cap, .func (.func 34) #[] #[]] w fun e w' => e = .returned (.tuple #[]) ∧ w' = w := AnyF.slices_SortFunc_none laySortI ao cap _ w
    refine k.mono ?_
    rintro e w' ⟨rfl, rfl⟩
    exact ⟨rfl, [], List.Perm.refl _, List.Pairwise.nil, h, hb⟩
  · have hpos : 0 < xs.length := List.length_pos_iff.2 h0
    rcases h with ⟨_, e⟩ | ⟨g, cap, rfl, h2, h3, h4, h5⟩
    · exact absurd e h0
    · have inst : Inhabited (Fin xs.length) := ⟨⟨0, hpos⟩⟩
      obtain ⟨e, he⟩ : ∃ e : Fin xs.length → IE, e = fun i => xs[i] := ⟨_, rfl⟩
      obtain ⟨d, hd⟩ : ∃ d : List (Fin xs.length), d = List.finRange xs.length := ⟨_, rfl⟩
      have hdl : d.length = xs.length := by rw [hd]; simp
      have hde : d.map e = xs := by
        rw [hd, he]
        apply List.ext_getElem
        · simp
        · intro i h1 h2; simp
      have hmem : ∀ i, e i ∈ xs := fun i => by rw [he]; exact List.getElem_mem _
      have hH : Go.Sort.HoldsK (fun i => icell (e i)) 11 w g 0 d.toArray := holds_ownK icell_len e d (by rw [hde]; exact h5)
      have hpl : ∀ i, (e i).1.o.p.length ≤ 2000000 := fun i => by have := (short_parts (hs _ (hmem i))).1.1; omega
      have hcmp : CmpLays Tryz.prog 34 #[] (fun i => icell (e i)) 11 (cfI e) g 0 d.toArray.size w := by
        intro m os dk _ i j
        have hB := but_sortK (m := 11) (enc := fun i => icell (e i)) w g m dk os
        have hBB := hb.trans (hB.below h4 (by have := h5.1; omega))
        refine (icomp_any (e i) (e j) _ ((hok _ (hmem i)).on hBB) ((hok _ (hmem j)).on hBB) (hpl i) (hpl j)).mono ?_
        rintro r w' ⟨rfl, q, rfl⟩
        refine ⟨rfl, q, #[.cells (icell (e i)).toArray 76, .cells (icell (e j)).toArray 76], ?_⟩
        rw [Go.Sort.alloc_eq_grow, Go.Sort.alloc_eq_grow, Go.Sort.grow_grow]
        rfl
      have k := AnyQ.slices_SortFunc laySortI 11 Tryz.isAgg76 Tryz.sizeOf76 (fun i => icell (e i)) (fun i => rfl) (fun i => icell_one (hok _ (hmem i))) (cfI e) (swoI e) 34 #[] g 0 cap d.toArray w egI hcmp hH h5.1 (by simp; omega)
      rw [List.size_toArray, hdl] at k
      change Calls Tryz.prog 33 _ _ _ at k
      refine k.mono ?_
      rintro r w' ⟨rfl, d', n, os, ⟨p1, _, p3⟩, hs, rfl⟩
      have hsz : d'.size = xs.length := by rw [p1]; simp [hdl]
      have hB := but_sortK (m := 11) (enc := fun i => icell (e i)) w g n d' os
      have hp : d'.toList.Perm d := by
        have e1 : d'.extract 0 xs.length = d' := extract_all _ _ hsz
        have e2 : d.toArray.extract 0 xs.length = d.toArray := extract_all _ _ (by simpa using hdl)
        rw [e1, e2] at p3
        simpa using p3
      have hg' : g < (Go.Proofs.sortWorldK (fun i => icell (e i)) 11 w g 0 n d' os).heap.size := Nat.lt_of_lt_of_le h5.1 hB.size
      have hO : OwnR (Go.Proofs.sortWorldK (fun i => icell (e i)) 11 w g 0 n d' os) g icell 11 (d'.toList.map e) := by
        refine own_holdsK icell_len e d'.toList hg' ?_
        rw [Array.toArray_toList]
        exact holdsK_sortWorldK_c (fun i => icell (e i)) 11 w g 0 d.toArray d' n os hH h5.1 (by rw [hsz]; simp [hdl])
      have hyl : (d'.toList.map e).length = xs.length := by simp [hsz]
      refine ⟨rfl, d'.toList.map e, ?_, ?_, .inr ⟨g, cap, by rw [hyl], by rw [hyl]; exact h2, h3, h4, hO⟩, hb.trans (hB.below h4 (by have := h5.1; omega))⟩
      · have := hp.map e
        rwa [hde] at this
      · rw [List.pairwise_map, List.pairwise_iff_getElem]
        intro i j hi hj hij
        have hs1 := hs i j (Nat.zero_le _) hij (by simpa [hsz] using hj)
        have hi' : i < d'.size := by simpa using hi
        have hj' : j < d'.size := by simpa using hj
        rw [getElem!_pos d' i hi', getElem!_pos d' j hj'] at hs1
        unfold ltOf cfI at hs1
        rw [decide_eq_false_iff_not] at hs1
        have t := Tr.lord.turn (Tr.leafOf (e d'[j]).1) (Tr.leafOf (e d'[i]).1)
        simp only [Array.getElem_toList]
        omega

/-! ### A part of a slice -/
section
variable {α : Type} {f : α → List Value} {m : Nat}
theorem rowsIn.cutAt (_hf : ∀ x, (f x).length = m) {w : World} {ao : Option Addr} {n cap : Nat} {xs : List α} (h : rowsIn w f (.slice ao n cap) xs) {k : Nat} (hk : k ≤ xs.length) : rowsIn w f (.slice ao k cap) (xs.take k) := by
  obtain ⟨ao', c, e, h1, h2, h3⟩ := h
  cases e
  have hl : (xs.take k).length = k := by rw [List.length_take]; omega
  refine ⟨ao, cap, by rw [hl], by rw [hl]; omega, h2, fun j u hu => h3 j u ?_⟩
  have e : xs.flatMap f = (xs.take k).flatMap f ++ (xs.drop k).flatMap f := by rw [← List.flatMap_append, List.take_append_drop]
  rw [e, List.getElem?_append_left (List.getElem?_eq_some_iff.1 hu).1]
  exact hu
theorem rowsIn.dropAt (hf : ∀ x, (f x).length = m) {w : World} {ao : Option Addr} {n cap : Nat} {xs : List α} (h : rowsIn w f (.slice ao n cap) xs) {k : Nat} (hk : k ≤ xs.length) : rowsIn w f (.slice (if cap = k then ao else ao.map (·.add (k * m))) (n - k) (cap - k)) (xs.drop k) := by
  obtain ⟨ao', c, e, h1, h2, h3⟩ := h
  cases e
  have hl : (xs.drop k).length = xs.length - k := List.length_drop
  refine ⟨_, _, by rw [hl], by rw [hl]; omega, fun e => ?_, fun j u hu => ?_⟩
  · split at e
    · omega
    · rw [Option.map_eq_none_iff] at e
      have := h2 e
      omega
  · have e : xs.flatMap f = (xs.take k).flatMap f ++ (xs.drop k).flatMap f := by rw [← List.flatMap_append, List.take_append_drop]
    have e2 : ((xs.take k).flatMap f).length = k * m := by rw [flat_length hf, List.length_take, Nat.min_eq_left hk]
    obtain ⟨ad, rfl, hc⟩ := h3 (k * m + j) u (by rw [e, List.getElem?_append_right (by omega), e2, Nat.add_sub_cancel_left]; exact hu)
    by_cases hck : cap = k
    · have : xs.drop k = [] := List.drop_eq_nil_of_le (by omega)
      rw [this] at hu
      simp at hu
    · rw [if_neg hck]
      exact ⟨_, rfl, by rw [Addr.add_add]; exact hc⟩
end
theorem itsE.cutAt {w : World} {ao : Option Addr} {n cap : Nat} {xs : List IE} (h : itsE w (.slice ao n cap) xs) {k : Nat} (hk : k ≤ xs.length) : itsE w (.slice ao k cap) (xs.take k) := ⟨h.1.cutAt icell_len hk, fun x hx => h.2 x (List.mem_of_mem_take hx)⟩
theorem itsE.dropAt {w : World} {ao : Option Addr} {n cap : Nat} {xs : List IE} (h : itsE w (.slice ao n cap) xs) {k : Nat} (hk : k ≤ xs.length) : itsE w (.slice (if cap = k then ao else ao.map (·.add (k * 11))) (n - k) (cap - k)) (xs.drop k) := ⟨h.1.dropAt icell_len hk, fun x hx => h.2 x (List.mem_of_mem_drop hx)⟩

/-! ### Rows that a call made, while another one grows -/
section
variable {α : Type} {f : α → List Value} {m : Nat}
theorem OwnR.blk {w w' : World} {g : Nat} {xs : List α} (h : OwnR w g f m xs) (hb : w'.heap[g]? = w.heap[g]?) : OwnR w' g f m xs := by
  have hlt : g < w'.heap.size := by
    have h0 := h.1
    have h1 : w.heap[g]? = some w.heap[g] := Array.getElem?_eq_getElem h.1
    rw [h1] at hb
    exact (Array.getElem?_eq_some_iff.1 hb).1
  refine ⟨hlt, fun k hk => ?_⟩
  obtain ⟨a, b⟩ := h.2 k hk
  refine ⟨fun j v hv => (World.cell?_of_block (a := ⟨g, k * m + j, none⟩) hb).trans (a j v hv), fun j hj => ?_⟩
  obtain ⟨c, d⟩ := b j hj
  exact ⟨by rw [World.cell?_of_block (a := ⟨g, k * m + j, none⟩) hb]; exact c, (World.frozen?_of_block (a := ⟨g, k * m + j, none⟩) hb).trans d⟩
theorem rowR.keep {w w' : World} {B : Nat} {v : Value} {xs : List α} (h : rowR f m w B v xs) (hk : ∀ g, v.ownBlock = some g → w'.heap[g]? = w.heap[g]?) : rowR f m w' B v xs := by
  rcases h with h | ⟨g, cap, rfl, h2, h3, h4, h5⟩
  · exact .inl h
  · exact .inr ⟨g, cap, rfl, h2, h3, h4, h5.blk (hk g rfl)⟩
theorem rowR.mono {w : World} {B B' : Nat} {v : Value} {xs : List α} (h : rowR f m w B v xs) (hB : B' ≤ B) : rowR f m w B' v xs := by
  rcases h with h | ⟨g, cap, h1, h2, h3, h4, h5⟩
  · exact .inl h
  · exact .inr ⟨g, cap, h1, h2, h3, Nat.le_trans hB h4, h5⟩
theorem rowR.lt {w : World} {B : Nat} {v : Value} {xs : List α} (h : rowR f m w B v xs) {g : Nat} (e : v.ownBlock = some g) : B ≤ g ∧ g < w.heap.size := by
  rcases h with ⟨rfl, _⟩ | ⟨g', cap, rfl, h2, h3, h4, h5⟩
  · simp [Value.ownBlock] at e
  · obtain rfl : g' = g := by simpa [Value.ownBlock] using e
    exact ⟨h4, h5.1⟩
end
/-- A value's row, and the row of entries: they are not one, whichever block the longer row of entries lies in. -/
theorem sep_new {W W' : World} {B B2 n' g : Nat} {T : TypeId} {v v' lv pv : Value} {cs : List Value} {l : List Rg.Va} (hg : W.grownBy W' v.ownBlock) (hown : W'.ownsRow B T 4 v' n' cs) (hc : cs[0]? = some pv) (hp : ∃ ao m c, pv = .slice ao m c) (hr : rowR vcell 3 W B2 lv l) (hl : 0 < l.length) (e : lv.ownBlock = some g) (hne : v.ownBlock ≠ some g) : v'.ownBlock ≠ some g := by
  intro e'
  obtain ⟨ao, m, c, rfl⟩ := hp
  rcases hr with ⟨rfl, _⟩ | ⟨g', cap, rfl, h2, h3, h4, h5⟩
  · simp [Value.ownBlock] at e
  obtain rfl : g' = g := by simpa [Value.ownBlock] using e
  rcases id hown.2 with ⟨rfl, _⟩ | ⟨q, cap', cur, rfl, _⟩
  · simp [Value.ownBlock] at e'
  obtain rfl : q = g' := by simpa [Value.ownBlock] using e'
  have h6 := hown.cells rfl 0 _ hc
  have h7 := (h5.2 0 hl).1 0 _ rfl
  have h8 := hg.cell h7 (fun x => hne x.symm)
  rw [zero_add9] at h6
  rw [show 0 * 3 + 0 = 0 from rfl] at h8
  rw [h6] at h8
  simp at h8
end Go.Proofs.YthlhopdlkkeohaaGreatDoor.O
/- The walk of view's At: what is at a leaf; its path and its values are rows of the call's own. -/
namespace Go.Proofs.YthlhopdlkkeohaaGreatDoor.O
open Go.RowKit

/-- The result and the variable, as they stand ahead of the calls, and behind one; the path was copied between them. -/
structure TwoP (w : World) (b : Nat) (pv : Value) (k : Int) (ps : List (List UInt8)) (W : World) : Prop where
  below : Below w.heap.size w W
  far : w.heap.size < b
  v6 : EVar W w.heap.size z0 0 z0 0
  v7 : EVar W b pv k z0 0
  path : W.ownsRow (w.heap.size + 1) 9 1 pv ps.length (U.cellsS ps)
  off : pv.ownBlock ≠ some b
theorem TwoP.on {w W W' : World} {b : Nat} {pv : Value} {k : Int} {ps : List (List UInt8)} (h : TwoP w b pv k ps W) (hb : Below W.heap.size W W') : TwoP w b pv k ps W' :=
  ⟨bchain h.below hb, h.far, h.v6.on hb, h.v7.on hb, own_on h.path hb, h.off⟩
theorem TwoP.new {w w2 : World} {pv : Value} {k : Int} {ps : List (List UInt8)} (hb : Below (w.alloc (entO z0 0 z0 0 38)).heap.size (w.alloc (entO z0 0 z0 0 38)) w2) (hp : w2.ownsRow (w.alloc (entO z0 0 z0 0 38)).heap.size 9 1 pv ps.length (U.cellsS ps)) : TwoP w w2.heap.size pv k ps (w2.alloc (entO pv k z0 0 38)) := by
  have b1 := below_new w (entO z0 0 z0 0 38)
  have b3 := below_new w2 (entO pv k z0 0 38)
  have hs := hb.size
  refine ⟨bchain b1 (bchain hb b3), by rw [World.size_alloc] at hs; omega, ((EVar.new w z0 0 z0 0 38).on hb).on b3, EVar.new w2 pv k z0 0 38, ?_, fun e => ?_⟩
  · rw [World.size_alloc] at hp
    exact own_on hp b3
  · have := (hp.lt _ e).2
    omega
/-- What stands behind the call's end. -/
theorem TwoP.list {w w1 : World} {b : Nat} {pv r : Value} {k n : Int} {ps : List (List UInt8)} {l : List Rg.Va} {B : Nat} (H : TwoP w b pv k ps w1) (hr : rowR vcell 3 w1 B r l) (hB : b < B) :
    (set4 (w1.setCell ⟨b, 2, none⟩ r) w.heap.size pv k r n).ownsRow w.heap.size 9 1 pv ps.length (U.cellsS ps) ∧ rowR vcell 3 (set4 (w1.setCell ⟨b, 2, none⟩ r) w.heap.size pv k r n) w.heap.size r l ∧ Below w.heap.size w (set4 (w1.setCell ⟨b, 2, none⟩ r) w.heap.size pv k r n) := by
  have hf := H.far
  refine ⟨own_keep (own_base H.path (by omega)) fun g e => ?_, (hr.keep fun g e => ?_).mono (by omega), below_set4 (H.below.setCell (by simp; omega) _) (Nat.le_refl _) _ _ _ _⟩
  · have h := (H.path.lt g e).1
    have h2 : g ≠ b := fun q => H.off (by rw [e, q])
    exact (set4_block _ _ _ _ _ _ (by omega)).trans (Below.heap_setCell _ _ _ _ (by simpa using h2))
  · have h := (hr.lt e).1
    exact (set4_block _ _ _ _ _ _ (by omega)).trans (Below.heap_setCell _ _ _ _ (by simp; omega))
theorem TwoP.total {w w1 : World} {b : Nat} {pv : Value} {k n : Int} {ps : List (List UInt8)} (H : TwoP w b pv k ps w1) :
    (set4 (w1.setCell ⟨b, 3, none⟩ (.int .i64 n)) w.heap.size pv k z0 n).ownsRow w.heap.size 9 1 pv ps.length (U.cellsS ps) ∧ Below w.heap.size w (set4 (w1.setCell ⟨b, 3, none⟩ (.int .i64 n)) w.heap.size pv k z0 n) := by
  have hf := H.far
  refine ⟨own_keep (own_base H.path (by omega)) fun g e => ?_, below_set4 (H.below.setCell (by simp; omega) _) (Nat.le_refl _) _ _ _ _⟩
  have h := (H.path.lt g e).1
  have h2 : g ≠ b := fun q => H.off (by rw [e, q])
  exact (set4_block _ _ _ _ _ _ (by omega)).trans (Below.heap_setCell _ _ _ _ (by simpa using h2))
theorem TwoP.none {w w1 : World} {b : Nat} {pv : Value} {k n : Int} {ps : List (List UInt8)} (H : TwoP w b pv k ps w1) :
    (set4 w1 w.heap.size pv k z0 n).ownsRow w.heap.size 9 1 pv ps.length (U.cellsS ps) ∧ Below w.heap.size w (set4 w1 w.heap.size pv k z0 n) := by
  refine ⟨own_keep (own_base H.path (by omega)) fun g e => ?_, below_set4 H.below (Nat.le_refl _) _ _ _ _⟩
  have h := (H.path.lt g e).1
  exact set4_block _ _ _ _ _ _ (by omega)

set_option maxRecDepth 20000 in
set_option maxHeartbeats 4000000 in
theorem at18_any (v vp : Value) (xs : List IE) (its : List Lv.Item) (p : List (List UInt8)) (k : Int) (w : World) (hv : itsE w v xs) (he : xs.map (·.1) = its) (hp : U.strsAt w vp p) (hn : xs.length ≤ 1000000) (hpn : p.length ≤ 1000000) (hs : ShortI xs) (hz : C.SmallN xs) :
    Calls Tryz.prog 13 #[v, vp, .int .i64 k] w fun e w' => ∃ pa pn pc ra rn rk, e = .returned (entV (.slice pa pn pc) k (.slice ra rn rk) (Vw.at' its p k).n) ∧ w'.ownsRow w.heap.size 9 1 (.slice pa pn pc) p.length (U.cellsS p) ∧ rowR vcell 3 w' w.heap.size (.slice ra rn rk) (Vw.at' its p k).l ∧ Below w.heap.size w w' := by
  obtain ⟨qa, qn, qc, rfl⟩ := strs_slice hp
  have HCl := cloneSl_any (.slice qa qn qc) p (w.alloc (entO z0 0 z0 0 38)) (U.strsAt_below hp (below_new _ _) (Nat.le_refl _)) hpn
  by_cases h1 : k = 1
  · subst h1
    have HC : ∀ W, Below w.heap.size w W → Calls Tryz.prog 39 #[v, .slice qa qn qc] W fun e w' => ∃ ra rn rk, e = .returned (.slice ra rn rk) ∧ rowR vcell 3 w' W.heap.size (.slice ra rn rk) (Vw.at' its p 1).l ∧ Below W.heap.size W w' := fun W hb =>
      (R.values_its (hv.on hb) he (U.strsAt_below hp hb (Nat.le_refl _)) hn hs).mono fun _ _ ⟨r, a, b, c⟩ => by
        obtain ⟨ra, rk, rfl⟩ := b.slice
        exact ⟨ra, _, rk, a, b, c⟩
    rw [show (Vw.at' its p 1).n = 0 from rfl]
    generalize (Vw.at' its p 1).l = l at *
    clear hv hp hs hz
    go_enter Tryz.func13, Tryz.ntmps13
    go_wp2_with (first
      | (go_at_call 38; refine HCl.mono ?_; rintro e w2 ⟨pa, pn, pc, rfl, hpo, hb0⟩; have H0 := TwoP.new (k := 1) hb0 hpo)
      | (go_at_call 39; refine (HC _ H0.below).mono ?_; rintro e w1 ⟨ra, rn, rk, rfl, hr, hb1⟩; have H1 := H0.on hb1; obtain ⟨a0, a1, a2, a3, a4, a5, a6, a7⟩ := H1.v6; obtain ⟨b0, b1, b2, b3, b4, b5, b6, b7⟩ := H1.v7; have V8 : EVar (w1.setCell ⟨w2.heap.size, 2, none⟩ (.slice ra rn rk)) w.heap.size z0 0 z0 0 := (EVar.setOther H1.v6 (by have := H1.far; simp; omega) _); obtain ⟨d0, d1, d2, d3, d4, d5, d6, d7⟩ := id V8; clear H0 hb1 HC))
    obtain ⟨r0, r1, r2, r3⟩ := set4_cells V8 (.slice pa pn pc) 1 (.slice ra rn rk) 0
    obtain ⟨hp2, hr2, B2⟩ := TwoP.list (n := 0) H1 hr (by rw [World.size_alloc]; omega)
    exact bodyPost_ret (v := entV (.slice pa pn pc) 1 (.slice ra rn rk) 0) (by simp [results, Tryz.results13, go_sem, r0, r1, r2, r3]) rfl ⟨pa, pn, pc, ra, rn, rk, rfl, hp2, hr2, B2⟩
  · by_cases h2 : k = 2
    · subst h2
      have HC : ∀ W, Below w.heap.size w W → Calls Tryz.prog 40 #[v, .slice qa qn qc] W fun e w' => ∃ ra rn rk, e = .returned (.slice ra rn rk) ∧ rowR vcell 3 w' W.heap.size (.slice ra rn rk) (Vw.at' its p 2).l ∧ Below W.heap.size W w' := fun W hb =>
        (B.values_its (hv.on hb) he (U.strsAt_below hp hb (Nat.le_refl _)) hn hs).mono fun _ _ ⟨r, a, b, c⟩ => by
          obtain ⟨ra, rk, rfl⟩ := b.slice
          exact ⟨ra, _, rk, a, b, c⟩
      rw [show (Vw.at' its p 2).n = 0 from rfl]
      generalize (Vw.at' its p 2).l = l at *
      clear hv hp hs hz
      go_enter Tryz.func13, Tryz.ntmps13
      go_wp2_with (first
        | (go_at_call 38; refine HCl.mono ?_; rintro e w2 ⟨pa, pn, pc, rfl, hpo, hb0⟩; have H0 := TwoP.new (k := 2) hb0 hpo)
        | (go_at_call 40; refine (HC _ H0.below).mono ?_; rintro e w1 ⟨ra, rn, rk, rfl, hr, hb1⟩; have H1 := H0.on hb1; obtain ⟨a0, a1, a2, a3, a4, a5, a6, a7⟩ := H1.v6; obtain ⟨b0, b1, b2, b3, b4, b5, b6, b7⟩ := H1.v7; have V8 : EVar (w1.setCell ⟨w2.heap.size, 2, none⟩ (.slice ra rn rk)) w.heap.size z0 0 z0 0 := (EVar.setOther H1.v6 (by have := H1.far; simp; omega) _); obtain ⟨d0, d1, d2, d3, d4, d5, d6, d7⟩ := id V8; clear H0 hb1 HC))
      obtain ⟨r0, r1, r2, r3⟩ := set4_cells V8 (.slice pa pn pc) 2 (.slice ra rn rk) 0
      obtain ⟨hp2, hr2, B2⟩ := TwoP.list (n := 0) H1 hr (by rw [World.size_alloc]; omega)
      exact bodyPost_ret (v := entV (.slice pa pn pc) 2 (.slice ra rn rk) 0) (by simp [results, Tryz.results13, go_sem, r0, r1, r2, r3]) rfl ⟨pa, pn, pc, ra, rn, rk, rfl, hp2, hr2, B2⟩
    · by_cases h3 : k = 3
      · subst h3
        have HC : ∀ W, Below w.heap.size w W → Calls Tryz.prog 41 #[v, .slice qa qn qc] W fun e w' => e = .returned (.int .i64 (Vw.sum its p)) ∧ Below W.heap.size W w' := fun W hb => by
          rw [sum_up]
          exact C.sum_its (hv.on hb) he (U.strsAt_below hp hb (Nat.le_refl _)) hn hs hz
        rw [show (Vw.at' its p 3).l = [] from rfl, show (Vw.at' its p 3).n = Vw.sum its p from rfl]
        generalize Vw.sum its p = z at *
        clear hv hp hs hz
        go_enter Tryz.func13, Tryz.ntmps13
        go_wp2_with (first
          | (go_at_call 38; refine HCl.mono ?_; rintro e w2 ⟨pa, pn, pc, rfl, hpo, hb0⟩; have H0 := TwoP.new (k := 3) hb0 hpo)
          | (go_at_call 41; refine (HC _ H0.below).mono ?_; rintro e w1 ⟨rfl, hb1⟩; have H1 := H0.on hb1; obtain ⟨a0, a1, a2, a3, a4, a5, a6, a7⟩ := H1.v6; obtain ⟨b0, b1, b2, b3, b4, b5, b6, b7⟩ := H1.v7; have V8 : EVar (w1.setCell ⟨w2.heap.size, 3, none⟩ (.int .i64 z)) w.heap.size z0 0 z0 0 := (EVar.setOther H1.v6 (by have := H1.far; simp; omega) _); obtain ⟨d0, d1, d2, d3, d4, d5, d6, d7⟩ := id V8; clear H0 hb1 HC))
        obtain ⟨r0, r1, r2, r3⟩ := set4_cells V8 (.slice pa pn pc) 3 z0 z
        obtain ⟨hp2, B2⟩ := TwoP.total (n := z) H1
        exact bodyPost_ret (v := entV (.slice pa pn pc) 3 z0 z) (by simp [results, Tryz.results13, go_sem, r0, r1, r2, r3]) rfl ⟨pa, pn, pc, none, 0, 0, rfl, hp2, .inl ⟨rfl, rfl⟩, B2⟩
      · rw [Vw.at_other h1 h2 h3]
        have e1 : (k == 1) = false := beq_eq_false_iff_ne.2 h1
        have e2 : (k == 2) = false := beq_eq_false_iff_ne.2 h2
        have e3 : (k == 3) = false := beq_eq_false_iff_ne.2 h3
        clear hv hp hs hz h1 h2 h3
        go_enter Tryz.func13, Tryz.ntmps13
        go_wp2_with (go_at_call 38; refine HCl.mono ?_; rintro e w2 ⟨pa, pn, pc, rfl, hpo, hb0⟩; have H1 := TwoP.new (k := k) hb0 hpo; obtain ⟨a0, a1, a2, a3, a4, a5, a6, a7⟩ := H1.v6; obtain ⟨b0, b1, b2, b3, b4, b5, b6, b7⟩ := H1.v7)
        obtain ⟨r0, r1, r2, r3⟩ := set4_cells H1.v6 (.slice pa pn pc) k z0 0
        obtain ⟨hp2, B2⟩ := TwoP.none (n := 0) H1
        exact bodyPost_ret (v := entV (.slice pa pn pc) k z0 0) (by simp [results, Tryz.results13, go_sem, r0, r1, r2, r3]) rfl ⟨pa, pn, pc, none, 0, 0, rfl, hp2, .inl ⟨rfl, rfl⟩, B2⟩
end Go.Proofs.YthlhopdlkkeohaaGreatDoor.O
