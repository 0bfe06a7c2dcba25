/- slices.SortFunc over items, by view's compare; a part of a slice of items; rows that a call made, while another one grows · The walk of view's At: what is at a leaf; its path and its values are rows of the call's own · The walk of view's Of: what is at all leaves: a copy of the items, put in order by their leaves, is taken leaf by leaf. -/
import Derived.Test.YthlhopdlkkeohaaGreatDoorECmp
import Derived.Test.YthlhopdlkkeohaaGreatDoorViewsAllAll
import Derived.Test.YthlhopdlkkeohaaGreatDoorVValsAllAll
import Derived.Test.YthlhopdlkkeohaaGreatDoorKeysAllAll
/- slices.SortFunc over items, by view's compare; a part of a slice of items; rows that a call made, while another one grows · The walk of view's At: what is at a leaf; its path and its values are rows of the call's own. -/
/- slices.SortFunc over items, by view's compare; a part of a slice of items; rows that a call made, while another one grows. -/
namespace Go.Proofs.YthlhopdlkkeohaaGreatDoor.O
open Go.RowKit Go.Shelf

def cfI {n : Nat} (e : Fin n → IE) (i j : Fin n) : Int := Tr.lcomp (Tr.leafOf (e i).1) (Tr.leafOf (e j).1)
theorem swoI {n : Nat} (e : Fin n → IE) : Go.Sort.SWO (ltOf (cfI e)) where
  irrefl i := by
    unfold ltOf cfI
    rw [decide_eq_false_iff_not]
    exact Tr.lord.irrefl _
  trans i j k h1 h2 := by
    unfold ltOf cfI at *
    rw [decide_eq_true_eq] at *
    exact Tr.lord.trans _ _ _ h1 h2
  ntrans i j k h1 h2 := by
    unfold ltOf cfI at *
    rw [decide_eq_false_iff_not] at *
    intro q
    rcases Tr.lord.tri (Tr.leafOf (e i).1) (Tr.leafOf (e j).1) with t | ⟨t, _⟩ | ⟨t, _⟩
    · exact h1 t
    · rw [t] at q; exact h2 q
    · exact h2 (Tr.lord.trans _ _ _ t q)
theorem egI : ∀ args w, (callFunc 34 args).run Tryz.prog w = .ok (.enter 34 args) w := enters_of Tryz.func34 (by kernel_rfl) rfl
theorem sortI_any (v : Value) (xs : List IE) (w0 w : World) (hb : Below w0.heap.size w0 w) (h : rowR icell 11 w w0.heap.size v xs) (hok : ∀ x ∈ xs, IOk w0 x) (hs : ShortI xs) (hn : xs.length ≤ 1000000) :
    Calls Tryz.prog 33 #[v, .func (.func 34) #[] #[]] w fun e w' => e = .returned (.tuple #[]) ∧ ∃ ys : List IE, ys.Perm xs ∧ (ys.Pairwise fun a b => Tr.lcomp (Tr.leafOf a.1) (Tr.leafOf b.1) ≤ 0) ∧ rowR icell 11 w' w0.heap.size v ys ∧ Below w0.heap.size w0 w' := by
  by_cases h0 : xs = []
  · subst h0
    obtain ⟨ao, cap, rfl⟩ := h.slice
    have k : Calls Tryz.prog 33 #[.slice ao 0 cap, .func (.func 34) #[] #[]] w fun e w' => e = .returned (.tuple #[]) ∧ w' = w := AnyF.slices_SortFunc_none laySortI ao cap _ w
    refine k.mono ?_
    rintro e w' ⟨rfl, rfl⟩
    exact ⟨rfl, [], List.Perm.refl _, List.Pairwise.nil, h, hb⟩
  · have hpos : 0 < xs.length := List.length_pos_iff.2 h0
    rcases h with ⟨_, e⟩ | ⟨g, cap, rfl, h2, h3, h4, h5⟩
    · exact absurd e h0
    · have inst : Inhabited (Fin xs.length) := ⟨⟨0, hpos⟩⟩
      obtain ⟨e, he⟩ : ∃ e : Fin xs.length → IE, e = fun i => xs[i] := ⟨_, rfl⟩
      obtain ⟨d, hd⟩ : ∃ d : List (Fin xs.length), d = List.finRange xs.length := ⟨_, rfl⟩
      have hdl : d.length = xs.length := by rw [hd]; simp
      have hde : d.map e = xs := by
        rw [hd, he]
        apply List.ext_getElem
        · simp
        · intro i h1 h2; simp
      have hmem : ∀ i, e i ∈ xs := fun i => by rw [he]; exact List.getElem_mem _
      have hH : Go.Sort.HoldsK (fun i => icell (e i)) 11 w g 0 d.toArray := holds_ownK icell_len e d (by rw [hde]; exact h5)
      have hpl : ∀ i, (e i).1.o.p.length ≤ 2000000 := fun i => by have := (short_parts (hs _ (hmem i))).1.1; omega
      have hcmp : CmpLays Tryz.prog 34 #[] (fun i => icell (e i)) 11 (cfI e) g 0 d.toArray.size w := by
        intro m os dk _ i j
        have hB := but_sortK (m := 11) (enc := fun i => icell (e i)) w g m dk os
        have hBB := hb.trans (hB.below h4 (by have := h5.1; omega))
        refine (icomp_any (e i) (e j) _ ((hok _ (hmem i)).on hBB) ((hok _ (hmem j)).on hBB) (hpl i) (hpl j)).mono ?_
        rintro r w' ⟨rfl, q, rfl⟩
        refine ⟨rfl, q, #[.cells (icell (e i)).toArray 76, .cells (icell (e j)).toArray 76], ?_⟩
        rw [Go.Sort.alloc_eq_grow, Go.Sort.alloc_eq_grow, Go.Sort.grow_grow]
        rfl
      have k := AnyQ.slices_SortFunc laySortI 11 Tryz.isAgg76 Tryz.sizeOf76 (fun i => icell (e i)) (fun i => rfl) (fun i => icell_one (hok _ (hmem i))) (cfI e) (swoI e) 34 #[] g 0 cap d.toArray w egI hcmp hH h5.1 (by simp; omega)
      rw [List.size_toArray, hdl] at k
      change Calls Tryz.prog 33 _ _ _ at k
      refine k.mono ?_
      rintro r w' ⟨rfl, d', n, os, ⟨p1, _, p3⟩, hs, rfl⟩
      have hsz : d'.size = xs.length := by rw [p1]; simp [hdl]
      have hB := but_sortK (m := 11) (enc := fun i => icell (e i)) w g n d' os
      have hp : d'.toList.Perm d := by
        have e1 : d'.extract 0 xs.length = d' := extract_all _ _ hsz
        have e2 : d.toArray.extract 0 xs.length = d.toArray := extract_all _ _ (by simpa using hdl)
        rw [e1, e2] at p3
        simpa using p3
      have hg' : g < (Go.Proofs.sortWorldK (fun i => icell (e i)) 11 w g 0 n d' os).heap.size := Nat.lt_of_lt_of_le h5.1 hB.size
      have hO : OwnR (Go.Proofs.sortWorldK (fun i => icell (e i)) 11 w g 0 n d' os) g icell 11 (d'.toList.map e) := by
        refine own_holdsK icell_len e d'.toList hg' ?_
        rw [Array.toArray_toList]
        exact holdsK_sortWorldK_c (fun i => icell (e i)) 11 w g 0 d.toArray d' n os hH h5.1 (by rw [hsz]; simp [hdl])
      have hyl : (d'.toList.map e).length = xs.length := by simp [hsz]
      refine ⟨rfl, d'.toList.map e, ?_, ?_, .inr ⟨g, cap, by rw [hyl], by rw [hyl]; exact h2, h3, h4, hO⟩, hb.trans (hB.below h4 (by have := h5.1; omega))⟩
      · have := hp.map e
        rwa [hde] at this
      · rw [List.pairwise_map, List.pairwise_iff_getElem]
        intro i j hi hj hij
        have hs1 := hs i j (Nat.zero_le _) hij (by simpa [hsz] using hj)
        have hi' : i < d'.size := by simpa using hi
        have hj' : j < d'.size := by simpa using hj
        rw [getElem!_pos d' i hi', getElem!_pos d' j hj'] at hs1
        unfold ltOf cfI at hs1
        rw [decide_eq_false_iff_not] at hs1
        have t := Tr.lord.turn (Tr.leafOf (e d'[j]).1) (Tr.leafOf (e d'[i]).1)
        simp only [Array.getElem_toList]
        omega

/-! ### A part of a slice -/
section
variable {α : Type} {f : α → List Value} {m : Nat}
theorem rowsIn.cutAt (_hf : ∀ x, (f x).length = m) {w : World} {ao : Option Addr} {n cap : Nat} {xs : List α} (h : rowsIn w f (.slice ao n cap) xs) {k : Nat} (hk : k ≤ xs.length) : rowsIn w f (.slice ao k cap) (xs.take k) := by
  obtain ⟨ao', c, e, h1, h2, h3⟩ := h
  cases e
  have hl : (xs.take k).length = k := by rw [List.length_take]; omega
  refine ⟨ao, cap, by rw [hl], by rw [hl]; omega, h2, fun j u hu => h3 j u ?_⟩
  have e : xs.flatMap f = (xs.take k).flatMap f ++ (xs.drop k).flatMap f := by rw [← List.flatMap_append, List.take_append_drop]
  rw [e, List.getElem?_append_left (List.getElem?_eq_some_iff.1 hu).1]
  exact hu
theorem rowsIn.dropAt (hf : ∀ x, (f x).length = m) {w : World} {ao : Option Addr} {n cap : Nat} {xs : List α} (h : rowsIn w f (.slice ao n cap) xs) {k : Nat} (hk : k ≤ xs.length) : rowsIn w f (.slice (if cap = k then ao else ao.map (·.add (k * m))) (n - k) (cap - k)) (xs.drop k) := by
  obtain ⟨ao', c, e, h1, h2, h3⟩ := h
  cases e
  have hl : (xs.drop k).length = xs.length - k := List.length_drop
  refine ⟨_, _, by rw [hl], by rw [hl]; omega, fun e => ?_, fun j u hu => ?_⟩
  · split at e
    · omega
    · rw [Option.map_eq_none_iff] at e
      have := h2 e
      omega
  · have e : xs.flatMap f = (xs.take k).flatMap f ++ (xs.drop k).flatMap f := by rw [← List.flatMap_append, List.take_append_drop]
    have e2 : ((xs.take k).flatMap f).length = k * m := by rw [flat_length hf, List.length_take, Nat.min_eq_left hk]
    obtain ⟨ad, rfl, hc⟩ := h3 (k * m + j) u (by rw [e, List.getElem?_append_right (by omega), e2, Nat.add_sub_cancel_left]; exact hu)
    by_cases hck : cap = k
    · have : xs.drop k = [] := List.drop_eq_nil_of_le (by omega)
      rw [this] at hu
      simp at hu
    · rw [if_neg hck]
      exact ⟨_, rfl, by rw [Addr.add_add]; exact hc⟩
end
theorem itsE.cutAt {w : World} {ao : Option Addr} {n cap : Nat} {xs : List IE} (h : itsE w (.slice ao n cap) xs) {k : Nat} (hk : k ≤ xs.length) : itsE w (.slice ao k cap) (xs.take k) := ⟨h.1.cutAt icell_len hk, fun x hx => h.2 x (List.mem_of_mem_take hx)⟩
theorem itsE.dropAt {w : World} {ao : Option Addr} {n cap : Nat} {xs : List IE} (h : itsE w (.slice ao n cap) xs) {k : Nat} (hk : k ≤ xs.length) : itsE w (.slice (if cap = k then ao else ao.map (·.add (k * 11))) (n - k) (cap - k)) (xs.drop k) := ⟨h.1.dropAt icell_len hk, fun x hx => h.2 x (List.mem_of_mem_drop hx)⟩

/-! ### Rows that a call made, while another one grows -/
section
variable {α : Type} {f : α → List Value} {m : Nat}
theorem OwnR.blk {w w' : World} {g : Nat} {xs : List α} (h : OwnR w g f m xs) (hb : w'.heap[g]? = w.heap[g]?) : OwnR w' g f m xs := by
  have hlt : g < w'.heap.size := by
    have h0 := h.1
    have h1 : w.heap[g]? = some w.heap[g] := Array.getElem?_eq_getElem h.1
    rw [h1] at hb
    exact (Array.getElem?_eq_some_iff.1 hb).1
  refine ⟨hlt, fun k hk => ?_⟩
  obtain ⟨a, b⟩ := h.2 k hk
  refine ⟨fun j v hv => (World.cell?_of_block (a := ⟨g, k * m + j, none⟩) hb).trans (a j v hv), fun j hj => ?_⟩
  obtain ⟨c, d⟩ := b j hj
  exact ⟨by rw [World.cell?_of_block (a := ⟨g, k * m + j, none⟩) hb]; exact c, (World.frozen?_of_block (a := ⟨g, k * m + j, none⟩) hb).trans d⟩
theorem rowR.keep {w w' : World} {B : Nat} {v : Value} {xs : List α} (h : rowR f m w B v xs) (hk : ∀ g, v.ownBlock = some g → w'.heap[g]? = w.heap[g]?) : rowR f m w' B v xs := by
  rcases h with h | ⟨g, cap, rfl, h2, h3, h4, h5⟩
  · exact .inl h
  · exact .inr ⟨g, cap, rfl, h2, h3, h4, h5.blk (hk g rfl)⟩
theorem rowR.mono {w : World} {B B' : Nat} {v : Value} {xs : List α} (h : rowR f m w B v xs) (hB : B' ≤ B) : rowR f m w B' v xs := by
  rcases h with h | ⟨g, cap, h1, h2, h3, h4, h5⟩
  · exact .inl h
  · exact .inr ⟨g, cap, h1, h2, h3, Nat.le_trans hB h4, h5⟩
theorem rowR.lt {w : World} {B : Nat} {v : Value} {xs : List α} (h : rowR f m w B v xs) {g : Nat} (e : v.ownBlock = some g) : B ≤ g ∧ g < w.heap.size := by
  rcases h with ⟨rfl, _⟩ | ⟨g', cap, rfl, h2, h3, h4, h5⟩
  · simp [Value.ownBlock] at e
  · obtain rfl : g' = g := by simpa [Value.ownBlock] using e
    exact ⟨h4, h5.1⟩
end
/-- A value's row, and the row of entries: they are not one, whichever block the longer row of entries lies in. -/
theorem sep_new {W W' : World} {B B2 n' g : Nat} {T : TypeId} {v v' lv pv : Value} {cs : List Value} {l : List Rg.Va} (hg : W.grownBy W' v.ownBlock) (hown : W'.ownsRow B T 4 v' n' cs) (hc : cs[0]? = some pv) (hp : ∃ ao m c, pv = .slice ao m c) (hr : rowR vcell 3 W B2 lv l) (hl : 0 < l.length) (e : lv.ownBlock = some g) (hne : v.ownBlock ≠ some g) : v'.ownBlock ≠ some g := by
  intro e'
  obtain ⟨ao, m, c, rfl⟩ := hp
  rcases hr with ⟨rfl, _⟩ | ⟨g', cap, rfl, h2, h3, h4, h5⟩
  · simp [Value.ownBlock] at e
  obtain rfl : g' = g := by simpa [Value.ownBlock] using e
  rcases id hown.2 with ⟨rfl, _⟩ | ⟨q, cap', cur, rfl, _⟩
  · simp [Value.ownBlock] at e'
  obtain rfl : q = g' := by simpa [Value.ownBlock] using e'
  have h6 := hown.cells rfl 0 _ hc
  have h7 := (h5.2 0 hl).1 0 _ rfl
  have h8 := hg.cell h7 (fun x => hne x.symm)
  rw [zero_add9] at h6
  rw [show 0 * 3 + 0 = 0 from rfl] at h8
  rw [h6] at h8
  simp at h8
end Go.Proofs.YthlhopdlkkeohaaGreatDoor.O
/- The walk of view's At: what is at a leaf; its path and its values are rows of the call's own. -/
namespace Go.Proofs.YthlhopdlkkeohaaGreatDoor.O
open Go.RowKit

/-- The result and the variable, as they stand ahead of the calls, and behind one; the path was copied between them. -/
structure TwoP (w : World) (b : Nat) (pv : Value) (k : Int) (ps : List (List UInt8)) (W : World) : Prop where
  below : Below w.heap.size w W
  far : w.heap.size < b
  v6 : EVar W w.heap.size z0 0 z0 0
  v7 : EVar W b pv k z0 0
  path : W.ownsRow (w.heap.size + 1) 9 1 pv ps.length (U.cellsS ps)
  off : pv.ownBlock ≠ some b
theorem TwoP.on {w W W' : World} {b : Nat} {pv : Value} {k : Int} {ps : List (List UInt8)} (h : TwoP w b pv k ps W) (hb : Below W.heap.size W W') : TwoP w b pv k ps W' :=
  ⟨bchain h.below hb, h.far, h.v6.on hb, h.v7.on hb, own_on h.path hb, h.off⟩
theorem TwoP.new {w w2 : World} {pv : Value} {k : Int} {ps : List (List UInt8)} (hb : Below (w.alloc (entO z0 0 z0 0 38)).heap.size (w.alloc (entO z0 0 z0 0 38)) w2) (hp : w2.ownsRow (w.alloc (entO z0 0 z0 0 38)).heap.size 9 1 pv ps.length (U.cellsS ps)) : TwoP w w2.heap.size pv k ps (w2.alloc (entO pv k z0 0 38)) := by
  have b1 := below_new w (entO z0 0 z0 0 38)
  have b3 := below_new w2 (entO pv k z0 0 38)
  have hs := hb.size
  refine ⟨bchain b1 (bchain hb b3), by rw [World.size_alloc] at hs; omega, ((EVar.new w z0 0 z0 0 38).on hb).on b3, EVar.new w2 pv k z0 0 38, ?_, fun e => ?_⟩
  · rw [World.size_alloc] at hp
    exact own_on hp b3
  · have := (hp.lt _ e).2
    omega
/-- What stands behind the call's end. -/
theorem TwoP.list {w w1 : World} {b : Nat} {pv r : Value} {k n : Int} {ps : List (List UInt8)} {l : List Rg.Va} {B : Nat} (H : TwoP w b pv k ps w1) (hr : rowR vcell 3 w1 B r l) (hB : b < B) :
    (set4 (w1.setCell ⟨b, 2, none⟩ r) w.heap.size pv k r n).ownsRow w.heap.size 9 1 pv ps.length (U.cellsS ps) ∧ rowR vcell 3 (set4 (w1.setCell ⟨b, 2, none⟩ r) w.heap.size pv k r n) w.heap.size r l ∧ Below w.heap.size w (set4 (w1.setCell ⟨b, 2, none⟩ r) w.heap.size pv k r n) := by
  have hf := H.far
  refine ⟨own_keep (own_base H.path (by omega)) fun g e => ?_, (hr.keep fun g e => ?_).mono (by omega), below_set4 (H.below.setCell (by simp; omega) _) (Nat.le_refl _) _ _ _ _⟩
  · have h := (H.path.lt g e).1
    have h2 : g ≠ b := fun q => H.off (by rw [e, q])
    exact (set4_block _ _ _ _ _ _ (by omega)).trans (Below.heap_setCell _ _ _ _ (by simpa using h2))
  · have h := (hr.lt e).1
    exact (set4_block _ _ _ _ _ _ (by omega)).trans (Below.heap_setCell _ _ _ _ (by simp; omega))
theorem TwoP.total {w w1 : World} {b : Nat} {pv : Value} {k n : Int} {ps : List (List UInt8)} (H : TwoP w b pv k ps w1) :
    (set4 (w1.setCell ⟨b, 3, none⟩ (.int .i64 n)) w.heap.size pv k z0 n).ownsRow w.heap.size 9 1 pv ps.length (U.cellsS ps) ∧ Below w.heap.size w (set4 (w1.setCell ⟨b, 3, none⟩ (.int .i64 n)) w.heap.size pv k z0 n) := by
  have hf := H.far
  refine ⟨own_keep (own_base H.path (by omega)) fun g e => ?_, below_set4 (H.below.setCell (by simp; omega) _) (Nat.le_refl _) _ _ _ _⟩
  have h := (H.path.lt g e).1
  have h2 : g ≠ b := fun q => H.off (by rw [e, q])
  exact (set4_block _ _ _ _ _ _ (by omega)).trans (Below.heap_setCell _ _ _ _ (by simpa using h2))
theorem TwoP.none {w w1 : World} {b : Nat} {pv : Value} {k n : Int} {ps : List (List UInt8)} (H : TwoP w b pv k ps w1) :
    (set4 w1 w.heap.size pv k z0 n).ownsRow w.heap.size 9 1 pv ps.length (U.cellsS ps) ∧ Below w.heap.size w (set4 w1 w.heap.size pv k z0 n) := by
  refine ⟨own_keep (own_base H.path (by omega)) fun g e => ?_, below_set4 H.below (Nat.le_refl _) _ _ _ _⟩
  have h := (H.path.lt g e).1
  exact set4_block _ _ _ _ _ _ (by omega)

set_option maxRecDepth 20000 in
set_option maxHeartbeats 4000000 in
theorem at18_any (v vp : Value) (xs : List IE) (its : List Lv.Item) (p : List (List UInt8)) (k : Int) (w : World) (hv : itsE w v xs) (he : xs.map (·.1) = its) (hp : U.strsAt w vp p) (hn : xs.length ≤ 1000000) (hpn : p.length ≤ 1000000) (hs : ShortI xs) (hz : C.SmallN xs) :
    Calls Tryz.prog 13 #[v, vp, .int .i64 k] w fun e w' => ∃ pa pn pc ra rn rk, e = .returned (entV (.slice pa pn pc) k (.slice ra rn rk) (Vw.at' its p k).n) ∧ w'.ownsRow w.heap.size 9 1 (.slice pa pn pc) p.length (U.cellsS p) ∧ rowR vcell 3 w' w.heap.size (.slice ra rn rk) (Vw.at' its p k).l ∧ Below w.heap.size w w' := by
  obtain ⟨qa, qn, qc, rfl⟩ := strs_slice hp
  have HCl := cloneSl_any (.slice qa qn qc) p (w.alloc (entO z0 0 z0 0 38)) (U.strsAt_below hp (below_new _ _) (Nat.le_refl _)) hpn
  by_cases h1 : k = 1
  · subst h1
    have HC : ∀ W, Below w.heap.size w W → Calls Tryz.prog 39 #[v, .slice qa qn qc] W fun e w' => ∃ ra rn rk, e = .returned (.slice ra rn rk) ∧ rowR vcell 3 w' W.heap.size (.slice ra rn rk) (Vw.at' its p 1).l ∧ Below W.heap.size W w' := fun W hb =>
      (R.values_its (hv.on hb) he (U.strsAt_below hp hb (Nat.le_refl _)) hn hs).mono fun _ _ ⟨r, a, b, c⟩ => by
        obtain ⟨ra, rk, rfl⟩ := b.slice
        exact ⟨ra, _, rk, a, b, c⟩
    rw [show (Vw.at' its p 1).n = 0 from rfl]
    generalize (Vw.at' its p 1).l = l at *
    clear hv hp hs hz
    go_enter Tryz.func13, Tryz.ntmps13
    go_wp2_with (first
      | (go_at_call 38; refine HCl.mono ?_; rintro e w2 ⟨pa, pn, pc, rfl, hpo, hb0⟩; have H0 := TwoP.new (k := 1) hb0 hpo)
      | (go_at_call 39; refine (HC _ H0.below).mono ?_; rintro e w1 ⟨ra, rn, rk, rfl, hr, hb1⟩; have H1 := H0.on hb1; obtain ⟨a0, a1, a2, a3, a4, a5, a6, a7⟩ := H1.v6; obtain ⟨b0, b1, b2, b3, b4, b5, b6, b7⟩ := H1.v7; have V8 : EVar (w1.setCell ⟨w2.heap.size, 2, none⟩ (.slice ra rn rk)) w.heap.size z0 0 z0 0 := (EVar.setOther H1.v6 (by have := H1.far; simp; omega) _); obtain ⟨d0, d1, d2, d3, d4, d5, d6, d7⟩ := id V8; clear H0 hb1 HC))
    obtain ⟨r0, r1, r2, r3⟩ := set4_cells V8 (.slice pa pn pc) 1 (.slice ra rn rk) 0
    obtain ⟨hp2, hr2, B2⟩ := TwoP.list (n := 0) H1 hr (by rw [World.size_alloc]; omega)
    exact bodyPost_ret (v := entV (.slice pa pn pc) 1 (.slice ra rn rk) 0) (by simp [results, Tryz.results13, go_sem, r0, r1, r2, r3]) rfl ⟨pa, pn, pc, ra, rn, rk, rfl, hp2, hr2, B2⟩
  · by_cases h2 : k = 2
    · subst h2
      have HC : ∀ W, Below w.heap.size w W → Calls Tryz.prog 40 #[v, .slice qa qn qc] W fun e w' => ∃ ra rn rk, e = .returned (.slice ra rn rk) ∧ rowR vcell 3 w' W.heap.size (.slice ra rn rk) (Vw.at' its p 2).l ∧ Below W.heap.size W w' := fun W hb =>
        (B.values_its (hv.on hb) he (U.strsAt_below hp hb (Nat.le_refl _)) hn hs).mono fun _ _ ⟨r, a, b, c⟩ => by
          obtain ⟨ra, rk, rfl⟩ := b.slice
          exact ⟨ra, _, rk, a, b, c⟩
      rw [show (Vw.at' its p 2).n = 0 from rfl]
      generalize (Vw.at' its p 2).l = l at *
      clear hv hp hs hz
      go_enter Tryz.func13, Tryz.ntmps13
      go_wp2_with (first
        | (go_at_call 38; refine HCl.mono ?_; rintro e w2 ⟨pa, pn, pc, rfl, hpo, hb0⟩; have H0 := TwoP.new (k := 2) hb0 hpo)
        | (go_at_call 40; refine (HC _ H0.below).mono ?_; rintro e w1 ⟨ra, rn, rk, rfl, hr, hb1⟩; have H1 := H0.on hb1; obtain ⟨a0, a1, a2, a3, a4, a5, a6, a7⟩ := H1.v6; obtain ⟨b0, b1, b2, b3, b4, b5, b6, b7⟩ := H1.v7; have V8 : EVar (w1.setCell ⟨w2.heap.size, 2, none⟩ (.slice ra rn rk)) w.heap.size z0 0 z0 0 := (EVar.setOther H1.v6 (by have := H1.far; simp; omega) _); obtain ⟨d0, d1, d2, d3, d4, d5, d6, d7⟩ := id V8; clear H0 hb1 HC))
      obtain ⟨r0, r1, r2, r3⟩ := set4_cells V8 (.slice pa pn pc) 2 (.slice ra rn rk) 0
      obtain ⟨hp2, hr2, B2⟩ := TwoP.list (n := 0) H1 hr (by rw [World.size_alloc]; omega)
      exact bodyPost_ret (v := entV (.slice pa pn pc) 2 (.slice ra rn rk) 0) (by simp [results, Tryz.results13, go_sem, r0, r1, r2, r3]) rfl ⟨pa, pn, pc, ra, rn, rk, rfl, hp2, hr2, B2⟩
    · by_cases h3 : k = 3
      · subst h3
        have HC : ∀ W, Below w.heap.size w W → Calls Tryz.prog 41 #[v, .slice qa qn qc] W fun e w' => e = .returned (.int .i64 (Vw.sum its p)) ∧ Below W.heap.size W w' := fun W hb => by
          rw [sum_up]
          exact C.sum_its (hv.on hb) he (U.strsAt_below hp hb (Nat.le_refl _)) hn hs hz
        rw [show (Vw.at' its p 3).l = [] from rfl, show (Vw.at' its p 3).n = Vw.sum its p from rfl]
        generalize Vw.sum its p = z at *
        clear hv hp hs hz
        go_enter Tryz.func13, Tryz.ntmps13
        go_wp2_with (first
          | (go_at_call 38; refine HCl.mono ?_; rintro e w2 ⟨pa, pn, pc, rfl, hpo, hb0⟩; have H0 := TwoP.new (k := 3) hb0 hpo)
          | (go_at_call 41; refine (HC _ H0.below).mono ?_; rintro e w1 ⟨rfl, hb1⟩; have H1 := H0.on hb1; obtain ⟨a0, a1, a2, a3, a4, a5, a6, a7⟩ := H1.v6; obtain ⟨b0, b1, b2, b3, b4, b5, b6, b7⟩ := H1.v7; have V8 : EVar (w1.setCell ⟨w2.heap.size, 3, none⟩ (.int .i64 z)) w.heap.size z0 0 z0 0 := (EVar.setOther H1.v6 (by have := H1.far; simp; omega) _); obtain ⟨d0, d1, d2, d3, d4, d5, d6, d7⟩ := id V8; clear H0 hb1 HC))
        obtain ⟨r0, r1, r2, r3⟩ := set4_cells V8 (.slice pa pn pc) 3 z0 z
        obtain ⟨hp2, B2⟩ := TwoP.total (n := z) H1
        exact bodyPost_ret (v := entV (.slice pa pn pc) 3 z0 z) (by simp [results, Tryz.results13, go_sem, r0, r1, r2, r3]) rfl ⟨pa, pn, pc, none, 0, 0, rfl, hp2, .inl ⟨rfl, rfl⟩, B2⟩
      · rw [Vw.at_other h1 h2 h3]
        have e1 : (k == 1) = false := beq_eq_false_iff_ne.2 h1
        have e2 : (k == 2) = false := beq_eq_false_iff_ne.2 h2
        have e3 : (k == 3) = false := beq_eq_false_iff_ne.2 h3
        clear hv hp hs hz h1 h2 h3
        go_enter Tryz.func13, Tryz.ntmps13
        go_wp2_with (go_at_call 38; refine HCl.mono ?_; rintro e w2 ⟨pa, pn, pc, rfl, hpo, hb0⟩; have H1 := TwoP.new (k := k) hb0 hpo; obtain ⟨a0, a1, a2, a3, a4, a5, a6, a7⟩ := H1.v6; obtain ⟨b0, b1, b2, b3, b4, b5, b6, b7⟩ := H1.v7)
        obtain ⟨r0, r1, r2, r3⟩ := set4_cells H1.v6 (.slice pa pn pc) k z0 0
        obtain ⟨hp2, B2⟩ := TwoP.none (n := 0) H1
        exact bodyPost_ret (v := entV (.slice pa pn pc) k z0 0) (by simp [results, Tryz.results13, go_sem, r0, r1, r2, r3]) rfl ⟨pa, pn, pc, none, 0, 0, rfl, hp2, .inl ⟨rfl, rfl⟩, B2⟩
end Go.Proofs.YthlhopdlkkeohaaGreatDoor.O
/- The walk of view's Of: what is at all leaves: a copy of the items, put in order by their leaves, is taken leaf by leaf. -/
namespace Go.Proofs.YthlhopdlkkeohaaGreatDoor.O
open Go.RowKit

theorem ex_cut {o : Oper} {a : Act} {x y : Operand} {X Y V : Value} (ho : o.op = .slice 28 x none (some y) none) (hx : a.eval x = X) (hy : a.eval y = Y) (hs : ∀ wx, (Instr.slice 28 X none (some Y) none).run Tryz.prog wx = .ok V wx) (w : World) : (execOp a.eval o).run Tryz.prog w = .ok (.value V) w := by
  unfold execOp
  simp only [ho, hx, hy, Sem.run_bind, Option.map_some, Option.map_none]
  go_simp
theorem cut_run {ao : Option Addr} {n cap i : Nat} (h : i ≤ n) (hc : n ≤ cap) (wx : World) : (Instr.slice 28 (.slice ao n cap) none (some (.int .i64 (i : Int))) none).run Tryz.prog wx = .ok (.slice ao i cap) wx := by
  have h0 : (0 : Int) ≤ (i : Int) := by omega
  have h2 : (i : Int) ≤ (cap : Int) := by omega
  go_simp
theorem drop_run {ao : Option Addr} {n cap i : Nat} (h : i ≤ n) (hc : n ≤ cap) (wx : World) : (Instr.slice 28 (.slice ao n cap) (some (.int .i64 (i : Int))) none none).run Tryz.prog wx = .ok (.slice (if cap = i then ao else ao.map (·.add (i * 11))) (n - i) (cap - i)) wx := by
  have h0 : (0 : Int) ≤ (i : Int) := by omega
  have h1 : (i : Int) ≤ (n : Int) := by omega
  have h2 : (n : Int) ≤ (cap : Int) := by omega
  have h3 : (i : Int) ≤ (cap : Int) := by omega
  go_simp
/-- An entry whose path's row and whose values' row a call made. -/
structure EOwnP (W : World) (B : Nat) (out : Value) (x : EE) : Prop where
  path : W.ownsRow B 9 1 x.2.1 x.1.p.length (U.cellsS x.1.p)
  vals : rowR vcell 3 W B x.2.2 x.1.l
  sep : ∀ g, x.2.2.ownBlock = some g → 0 < x.1.l.length → out.ownBlock ≠ some g
theorem EOwnP.on {W W' : World} {B : Nat} {out : Value} {x : EE} (h : EOwnP W B out x) (hb : Below W.heap.size W W') : EOwnP W' B out x := ⟨own_on h.path hb, h.vals.on hb, h.sep⟩
theorem EOwnP.ok {W : World} {B : Nat} {out : Value} {x : EE} (h : EOwnP W B out x) : EOk W x := ⟨U.strsAt_own h.path, h.vals.rows vcell_len⟩
theorem EOwnP.grown {W W' : World} {B n n' : Nat} {out out' pv : Value} {cs cs' : List Value} {x : EE} (h : EOwnP W B out x) (hown : W.ownsRow B 38 4 out n cs) (hg : W.grownBy W' out.ownBlock) (hown' : W'.ownsRow B 38 4 out' n' cs') (hc : cs'[0]? = some pv) (hp : ∃ ao m c, pv = .slice ao m c) : EOwnP W' B out' x := by
  refine ⟨own_grown_other h.path hg (own_types h.path hown (by decide)), ?_, fun g e hl => sep_new hg hown' hc hp h.vals hl e (h.sep g e hl)⟩
  rcases Nat.eq_zero_or_pos x.1.l.length with q | q
  · have e0 := List.eq_nil_of_length_eq_zero q
    rcases h.vals with ⟨e1, _⟩ | ⟨g, cap, e1, h2, h3, h4, h5⟩
    · exact .inl ⟨e1, e0⟩
    · exact .inr ⟨g, cap, e1, h2, h3, h4, Nat.lt_of_lt_of_le h5.1 hg.size, fun k hk => absurd hk (by omega)⟩
  · exact h.vals.keep fun g e => hg.block g (h.vals.lt e).2 fun x => h.sep g e q x.symm
theorem first_slice {W : World} {B : Nat} {out : Value} {acc : List EE} (h : ∀ x ∈ acc, EOwnP W B out x) {y : EE} (hy : ∃ ao m c, y.2.1 = .slice ao m c) : ∃ pv, ((acc ++ [y]).flatMap ecell)[0]? = some pv ∧ ∃ ao m c, pv = .slice ao m c := by
  cases acc with
  | nil => exact ⟨y.2.1, rfl, hy⟩
  | cons a r =>
    obtain ⟨ao, m, c, e⟩ := own_slice (h a (by simp)).path
    exact ⟨a.2.1, rfl, ao, m, c, e⟩

/-- What is left to be told while leaves are gone through. -/
structure OfI (wL : World) (its : List Lv.Item) (ls : List Tr.Leaf) (k : Nat) (cur : Value) (rest : List IE) (acc : List Vw.Entry) : Prop where
  cur : itsE wL cur rest
  up : Vw.Up (rest.map (·.1))
  lv : Tr.leaves (rest.map (·.1)) = ls.drop k
  of : acc ++ Vw.of (rest.map (·.1)) = Vw.of its
  len : rest.length ≤ 1000000
  short : ShortI rest
  small : C.SmallN rest
  alen : acc.length = k
theorem OfI.full {wL : World} {its : List Lv.Item} {ls : List Tr.Leaf} {k n cap : Nat} {ao : Option Addr} {rest : List IE} {acc : List Vw.Entry} (h : OfI wL its ls k (.slice ao n cap) rest acc) (hk : k < ls.length) : ∃ ad, ao = some ad := by
  have h0 : rest ≠ [] := fun e => by
    have h1 : Tr.leaves (rest.map (·.1)) = ls[k] :: ls.drop (k + 1) := h.lv.trans (List.drop_eq_getElem_cons hk)
    rw [e] at h1
    have h2 : ([] : List Tr.Leaf) = ls[k] :: ls.drop (k + 1) := h1
    cases h2
  obtain ⟨ad, e, _⟩ := h.cur.get (k := 0) (List.length_pos_iff.2 h0)
  exact ⟨ad, e⟩
theorem OfI.step {wL : World} {its : List Lv.Item} {ls : List Tr.Leaf} {k cap : Nat} {ao : Option Addr} {rest : List IE} {acc : List Vw.Entry} (h : OfI wL its ls k (.slice ao rest.length cap) rest acc) (hk : k < ls.length) {n9 : Nat} (hr : Vw.Run ls[k] (rest.map (·.1)) n9) :
    OfI wL its ls (k + 1) (.slice (if cap = n9 then ao else ao.map (·.add (n9 * 11))) (rest.length - n9) (cap - n9)) (rest.drop n9) (acc ++ [Vw.at' ((rest.take n9).map (·.1)) ls[k].1 ls[k].2]) := by
  have hl := h.lv
  rw [List.drop_eq_getElem_cons hk] at hl
  obtain ⟨e1, e2⟩ := Vw.split h.up hl hr
  have hle : n9 ≤ rest.length := by have := hr.1; simpa using this
  refine ⟨h.cur.dropAt hle, ?_, ?_, ?_, ?_, fun x hx => h.short x (List.mem_of_mem_drop hx), fun x hx => h.small x (List.mem_of_mem_drop hx), by simp [h.alen]⟩
  · rw [List.map_drop]; exact h.up.drop n9
  · rw [List.map_drop]; exact e2
  · rw [List.map_drop, List.map_take, List.append_assoc, List.singleton_append, ← e1]; exact h.of
  · rw [List.length_drop]; have := h.len; omega
/-- What one round leaves: the items at the leaf, what At tells of them, and the rest. -/
def OfN (wL : World) (its : List Lv.Item) (ls : List Tr.Leaf) (k : Nat) (ad : Addr) (m cap : Nat) (acc : List Vw.Entry) (p : List (List UInt8)) (z : Int) (pv : Value) (n9 : Nat) : Prop :=
  n9 ≤ m ∧ m ≤ cap ∧ ∃ l9 m9, (∀ W, Below wL.heap.size wL W → Calls Tryz.prog 13 #[.slice (some ad) n9 cap, pv, .int .i64 z] W fun e w' => ∃ pa pn pc ra rn rk, e = .returned (entV (.slice pa pn pc) z (.slice ra rn rk) m9) ∧ w'.ownsRow W.heap.size 9 1 (.slice pa pn pc) p.length (U.cellsS p) ∧ rowR vcell 3 w' W.heap.size (.slice ra rn rk) l9 ∧ Below W.heap.size W w') ∧
    ∃ rest', OfI wL its ls (k + 1) (.slice (if cap = n9 then some ad else (some ad).map (·.add (n9 * 11))) (m - n9) (cap - n9)) rest' (acc ++ [⟨p, z, l9, m9⟩])
theorem OfI.next {wL : World} {its : List Lv.Item} {ls : List Tr.Leaf} {k cap : Nat} {ad : Addr} {rest : List IE} {acc : List Vw.Entry} (h : OfI wL its ls k (.slice (some ad) rest.length cap) rest acc) (hk : k < ls.length) {p : List (List UInt8)} {z : Int} (hlk : ls[k] = (p, z)) {pv : Value} (hpv : U.strsAt wL pv p) (hpn : p.length ≤ 1000000) {n9 : Nat} (hr : Vw.Run (p, z) (rest.map (·.1)) n9) : OfN wL its ls k ad rest.length cap acc p z pv n9 := by
  have hle : n9 ≤ rest.length := by have := hr.1; simpa using this
  have hcap : rest.length ≤ cap := by
    obtain ⟨ao', c, e, h1, _⟩ := h.cur.1
    cases e
    exact h1
  refine ⟨hle, hcap, (Vw.at' ((rest.take n9).map (·.1)) p z).l, (Vw.at' ((rest.take n9).map (·.1)) p z).n, fun W hb => ?_, rest.drop n9, ?_⟩
  · exact at18_any _ pv (rest.take n9) _ p z W ((h.cur.cutAt hle).on hb) rfl (U.strsAt_below hpv hb (Nat.le_refl _)) (by rw [List.length_take]; have := h.len; omega) hpn (fun x hx => h.short x (List.mem_of_mem_take hx)) (fun x hx => h.small x (List.mem_of_mem_take hx))
  · have hs := h.step hk (n9 := n9) (by rw [hlk]; exact hr)
    rw [hlk] at hs
    exact hs
/-- A leaf in its variable while a region goes. -/
structure OfP (wL : World) (lb : Nat) (pv : Value) (z : Int) (W : World) : Prop where
  c0 : W.cell? ⟨lb, 0, none⟩ = some pv
  c1 : W.cell? ⟨lb, 1, none⟩ = some (.int .i64 z)
  below : Below wL.heap.size wL W
  low : wL.heap.size ≤ W.heap.size
theorem OfP.on {wL W W' : World} {lb : Nat} {pv : Value} {z : Int} (h : OfP wL lb pv z W) (hb : Below W.heap.size W W') : OfP wL lb pv z W' := ⟨keep_cell hb h.c0, keep_cell hb h.c1, bchain h.below hb, Nat.le_trans h.low hb.size⟩
theorem OfP.grown {wL W W' : World} {lb : Nat} {pv r : Value} {z : Int} {n : Nat} {cs : List Value} (h : OfP wL lb pv z W) (hg : W.grownBy W' r.ownBlock) (hown : W.ownsRow wL.heap.size 38 4 r n cs) (hne : some lb ≠ r.ownBlock) : OfP wL lb pv z W' :=
  ⟨hg.cell h.c0 hne, hg.cell h.c1 hne, h.below.grown hg h.low (fun g e => (hown.lt g e).1), Nat.le_trans h.low hg.size⟩

set_option maxRecDepth 20000 in
set_option maxHeartbeats 4000000 in
theorem of18_any (v : Value) (xs : List IE) (its : List Lv.Item) (w : World) (hv : itsE w v xs) (he : xs.map (·.1) = its) (hn : xs.length ≤ 1000000) (hs : ShortI xs) (hz : C.SmallN xs) :
    Calls Tryz.prog 11 #[v] w fun e w' => ∃ r es, e = .returned r ∧ es.map Prod.fst = Vw.of its ∧ entsE w' r es ∧ Below w.heap.size w w' := by
  obtain ⟨i0, hI0, hz0, hz1, hz2⟩ := einfo38
  have HCn := iclone_any v xs w hv hn
  have HSo : Hid (∀ r wC, wC.ownsRow w.heap.size 76 11 r xs.length (xs.flatMap icell) → Below w.heap.size w wC → Calls Tryz.prog 33 #[r, .func (.func 34) #[] #[]] wC fun e w' => e = .returned (.tuple #[]) ∧ ∃ ys, OfI w' its (Tr.leaves (ys.map (·.1))) 0 r ys [] ∧ Below w.heap.size w w') := by
    have h : ∀ r wC, wC.ownsRow w.heap.size 76 11 r xs.length (xs.flatMap icell) → Below w.heap.size w wC → Calls Tryz.prog 33 #[r, .func (.func 34) #[] #[]] wC fun e w' => e = .returned (.tuple #[]) ∧ ∃ ys, OfI w' its (Tr.leaves (ys.map (·.1))) 0 r ys [] ∧ Below w.heap.size w w' := fun r wC ho hb =>
      (sortI_any r xs w wC hb (rowR.of_own icell_len ho) hv.2 hs hn).mono fun e w' ⟨e1, ys, hp, hu, hr, hb'⟩ => ⟨e1, ys, ⟨⟨hr.rows icell_len, fun y hy => (hv.2 y (hp.mem_iff.1 hy)).on hb'⟩, by show List.Pairwise _ _; rw [List.pairwise_map]; exact hu, rfl, by rw [List.nil_append, ← he]; exact Vw.of_perm (hp.map _), by rw [hp.length_eq]; exact hn, fun y hy => hs y (hp.mem_iff.1 hy), fun y hy => hz y (hp.mem_iff.1 hy), rfl⟩, hb'⟩
    exact h
  have HLv : Hid (∀ r W ys, OfI W its (Tr.leaves (ys.map (·.1))) 0 r ys [] → Calls Tryz.prog 35 #[r] W fun e w' => ∃ zo zc zs, e = .returned (.slice zo zs.length zc) ∧ lvsE w' (.slice zo zs.length zc) zs ∧ OfI w' its (zs.map Prod.fst) 0 r ys [] ∧ zs.length ≤ 1000000 ∧ (∀ x ∈ zs, x.1.1.length ≤ 1000000) ∧ Below W.heap.size W w') := by
    have h : ∀ r W ys, OfI W its (Tr.leaves (ys.map (·.1))) 0 r ys [] → Calls Tryz.prog 35 #[r] W fun e w' => ∃ zo zc zs, e = .returned (.slice zo zs.length zc) ∧ lvsE w' (.slice zo zs.length zc) zs ∧ OfI w' its (zs.map Prod.fst) 0 r ys [] ∧ zs.length ≤ 1000000 ∧ (∀ x ∈ zs, x.1.1.length ≤ 1000000) ∧ Below W.heap.size W w' := fun r W ys h =>
      (leavesT_any r ys W h.cur h.len h.short).mono fun e w' ⟨q, zs, e1, e2, e3, e4⟩ => by
        obtain ⟨zo, zc, rfl⟩ := e3.slice
        refine ⟨zo, zc, zs, e1, e3, ?_, ?_, fun x hx => ?_, e4⟩
        · rw [e2]
          exact ⟨h.cur.on e4, h.up, h.lv, h.of, h.len, h.short, h.small, h.alen⟩
        · have h1 := congrArg List.length e2
          rw [List.length_map] at h1
          have h2 : (Tr.leaves (ys.map (·.1))).length ≤ (ys.map (·.1)).length := by
            unfold Tr.leaves
            refine Nat.le_trans (Li.vals_len _) ?_
            rw [List.length_map]
            exact Nat.le_refl _
          rw [List.length_map] at h2
          have := h.len
          omega
        · have h1 : x.1 ∈ Tr.leaves (ys.map (·.1)) := by rw [← e2]; exact List.mem_map.2 ⟨x, hx, rfl⟩
          obtain ⟨i, hi, e5⟩ := Tr.mem_leaves.1 h1
          obtain ⟨y, hy, rfl⟩ := List.mem_map.1 hi
          have h2 := (short_parts (h.short y hy)).1.1
          have e6 : y.1.o.p = x.1.1 := congrArg Prod.fst e5
          rw [← e6]
          omega
    exact h
  clear hv hs hz he hn
  go_enter Tryz.func11, Tryz.ntmps11
  go_wp2_with (first
    | (go_at_call 32; refine HCn.mono ?_; rintro e wC ⟨r, rfl, hoC, hbC⟩)
    | (go_at_call 33; refine (HSo.out r wC hoC hbC).mono ?_; rintro e wS ⟨rfl, ys, hI0s, hbS⟩; have HIs : Hid (OfI wS its (Tr.leaves (ys.map (·.1))) 0 r ys []) := hI0s; clear hI0s hoC hbC HCn)
    | (go_at_call 35; refine (HLv.out r wS ys HIs.out).mono ?_; rintro e wL ⟨zo, zc, zs, rfl, hlv, hi9, hzl, hzp, hbL⟩; have HI9 : Hid (OfI wL its (zs.map Prod.fst) 0 r ys []) := hi9; have hbSL := bchain hbS hbL; clear hi9 hbS hbL HIs))
  obtain ⟨n, hn0⟩ : ∃ n, n = zs.length := ⟨_, rfl⟩
  have HN : Hid (n = zs.length) := hn0
  rw [← hn0] at hlv hzl ⊢
  have HV : Hid (lvsE wL (.slice zo n zc) zs) := hlv
  have HZP : Hid (∀ x ∈ zs, x.1.1.length ≤ 1000000) := hzp
  clear hn0 hlv hzp HSo HLv
  go_loopw [0, 3, 5, 6, 14] (fun cur out _ _ i wr => ∃ (k : Nat) (acc : List EE) (rest : List IE), k ≤ n ∧ i = .int .i64 k ∧ Hid (OfI wL its (zs.map Prod.fst) k cur rest (acc.map Prod.fst)) ∧ wr.ownsRow wL.heap.size 38 4 out acc.length (acc.flatMap ecell) ∧ Hid (∀ x ∈ acc, EOwnP wr wL.heap.size out x) ∧ Below wL.heap.size wL wr) (fun _ _ _ _ i _ => n - (intOf i).toNat)
  case atStart => exact ⟨0, [], ys, by omega, rfl, HI9, World.ownsRow_nil _ _ _ _, fun x hx => by simp at hx, Below.refl _ _⟩
  case round =>
    obtain ⟨k, acc, rest, hk, rfl, HI, hown, HLo, hbw⟩ := hrel
    obtain ⟨ao, cap, rfl⟩ := HI.out.cur.slice
    have hal : acc.length = k := by have := HI.out.alen; simpa using this
    have hroom : acc.length + 1 ≤ 1000001 := by omega
    clear HI9
    by_cases hkn : k < n
    · have hkx : k < zs.length := by rw [← HN.out]; exact hkn
      have hkl : k < (zs.map Prod.fst).length := by simpa using hkx
      obtain ⟨ad, e0⟩ := HI.out.full hkl
      subst e0
      obtain ⟨zad, e9, -, hX1, hXo⟩ := HV.out.get hkx
      subst e9
      have hX := hX1.on hbw
      have HNx : Hid (∀ n9, Vw.Run zs[k].1 (rest.map (·.1)) n9 → OfN wL its (zs.map Prod.fst) k ad rest.length cap (acc.map Prod.fst) zs[k].1.1 zs[k].1.2 zs[k].2 n9) := by
        have h : ∀ n9, Vw.Run zs[k].1 (rest.map (·.1)) n9 → OfN wL its (zs.map Prod.fst) k ad rest.length cap (acc.map Prod.fst) zs[k].1.1 zs[k].1.2 zs[k].2 n9 := fun n9 hr => HI.out.next hkl (by rw [List.getElem_map]) hXo (HZP.out _ (List.getElem_mem hkx)) hr
        exact h
      have HAh : Hid (∀ W, Below wL.heap.size wL W → Calls Tryz.prog 36 #[.slice (some ad) rest.length cap, .agg #[zs[k].2, .int .i64 zs[k].1.2]] W fun e w' => ∃ n9 : Nat, e = .returned (.int .i64 (n9 : Int)) ∧ Vw.Run zs[k].1 (rest.map (·.1)) n9 ∧ Below W.heap.size W w') := by
        have h : ∀ W, Below wL.heap.size wL W → Calls Tryz.prog 36 #[.slice (some ad) rest.length cap, .agg #[zs[k].2, .int .i64 zs[k].1.2]] W fun e w' => ∃ n9 : Nat, e = .returned (.int .i64 (n9 : Int)) ∧ Vw.Run zs[k].1 (rest.map (·.1)) n9 ∧ Below W.heap.size W w' := fun W hb => ahead_any _ zs[k].2 rest zs[k].1.1 zs[k].1.2 W (HI.out.cur.on hb) (U.strsAt_below hXo hb (Nat.le_refl _)) HI.out.len HI.out.short
        exact h
      clear hX1 HI hal
      generalize rest.length = m at *
      generalize zs[k] = y at *
      obtain ⟨⟨p9, z⟩, pv⟩ := y
      obtain ⟨pa, pn, pc, rfl⟩ := strs_slice hXo
      obtain ⟨x0, x1⟩ := hX
      have bA := below_new wr (.cells #[.slice pa pn pc, .int .i64 z] 85)
      have hq0 : (wr.alloc (.cells #[.slice pa pn pc, .int .i64 z] 85)).cell? ⟨wr.heap.size, 0, none⟩ = some (.slice pa pn pc) := by simp
      have hq1 : (wr.alloc (.cells #[.slice pa pn pc, .int .i64 z] 85)).cell? ⟨wr.heap.size, 1, none⟩ = some (.int .i64 z) := by simp
      have hlb : some wr.heap.size ≠ u3.ownBlock := fun e => by have := (hown.lt _ e.symm).2; omega
      clear hXo
      go_wp2_with (go_at_call 36; refine (HAh.out _ (bchain hbw bA)).mono ?_; rintro e wA ⟨n9, rfl, hrun, hbA⟩; obtain ⟨hn9, hmc, l9, m9, hAT, rest', hI2⟩ := HNx.out n9 hrun; have HAT : Hid (∀ W, Below wL.heap.size wL W → Calls Tryz.prog 13 #[.slice (some ad) n9 cap, .slice pa pn pc, .int .i64 z] W fun e w' => ∃ pa pn pc ra rn rk, e = .returned (entV (.slice pa pn pc) z (.slice ra rn rk) m9) ∧ w'.ownsRow W.heap.size 9 1 (.slice pa pn pc) p9.length (U.cellsS p9) ∧ rowR vcell 3 w' W.heap.size (.slice ra rn rk) l9 ∧ Below W.heap.size W w') := hAT; have HI2 : Hid (OfI wL its (zs.map Prod.fst) (k + 1) (.slice (if cap = n9 then some ad else (some ad).map (·.add (n9 * 11))) (m - n9) (cap - n9)) rest' (acc.map Prod.fst ++ [⟨p9, z, l9, m9⟩])) := hI2; have hdrop := drop_run (ao := some ad) hn9 hmc; clear hrun hAT hI2 HAh HNx)
      have hbwA : Below wL.heap.size wL wA := bchain hbw (bchain bA hbA)
      have hc0 := keep_cell hbA hq0
      have hc1 := keep_cell hbA hq1
      have hownA := own_on hown (bchain bA hbA)
      have HLoA : ∀ x ∈ acc, EOwnP wA wL.heap.size u3 x := fun x hx => (HLo.out x hx).on (bchain bA hbA)
      clear hq0 hq1 bA hbA hown HLo x0 x1 hbw
      generalize (if cap = n9 then some ad else (some ad).map (·.add (n9 * 11))) = bo at *
      generalize m - n9 = mi at *
      generalize cap - n9 = ci at *
      refine wp_region_held_drew (S := fun W => OfP wL wr.heap.size (.slice pa pn pc) z W) (by kernel_rfl) (⟨hc0, hc1, hbwA.drew, hbwA.size⟩) (fun hH0 => ?_)
      refine held_take (i := 0) (o := { dst := some 21, op := Op.move (Operand.tmp 3), type := 32, pos := "view.go:66", after := #[], guard := none }) (v := u3) (by kernel_rfl) (by kernel_rfl) (by kernel_rfl) (by kernel_rfl) (fun _ _ _ h => h) (by kernel_rfl) (fun _ _ => by kernel_rfl) hH0 ?_
      refine held_take (i := 1) (o := { dst := some 22, op := Op.move (Operand.tmp 0), type := 28, pos := "view.go:66", after := #[], guard := none }) (v := .slice (some ad) m cap) (by kernel_rfl) (by kernel_rfl) (by kernel_rfl) (by kernel_rfl) (fun _ _ _ h => h) (by kernel_rfl) (fun _ _ => by kernel_rfl) hH0 ?_
      refine held_take (i := 2) (o := { dst := some 23, op := Op.move (Operand.tmp 6), type := 3, pos := "view.go:66", after := #[], guard := none }) (v := .int .i64 (n9 : Int)) (by kernel_rfl) (by kernel_rfl) (by kernel_rfl) (by kernel_rfl) (fun _ _ _ h => h) (by kernel_rfl) (fun _ _ => by kernel_rfl) hH0 ?_
      refine held_take (i := 3) (o := { dst := some 24, op := Op.slice 28 (Operand.tmp 22) none (some (Operand.tmp 23)) none, type := 28, pos := "view.go:66", after := #[{ on := 1, ground := Ground.data }, { on := 2, ground := Ground.data }], guard := none }) (v := .slice (some ad) n9 cap) (by kernel_rfl) (by kernel_rfl) (by kernel_rfl) (by kernel_rfl) (fun _ _ _ h => h) (by kernel_rfl) (fun W _ => ex_cut rfl (by kernel_rfl) (by kernel_rfl) (cut_run hn9 hmc) W) hH0 ?_
      refine held_take (i := 4) (o := { dst := some 25, op := Op.fieldAddr 85 (Operand.tmp 5) 0, type := 0, pos := "view.go:66", after := #[], guard := none }) (v := .pointer (some ⟨wr.heap.size, 0, none⟩)) (by kernel_rfl) (by kernel_rfl) (by kernel_rfl) (by kernel_rfl) (fun _ _ _ h => h) (by kernel_rfl) (fun W _ => ex_f_lf_0 (p := ⟨wr.heap.size, 0, none⟩) rfl (by kernel_rfl) W) hH0 ?_
      refine held_take (i := 5) (o := { dst := some 26, op := Op.load 24 (Operand.tmp 25), type := 24, pos := "view.go:66", after := #[{ on := 4, ground := Ground.data }], guard := none }) (v := .slice pa pn pc) (by kernel_rfl) (by kernel_rfl) (by kernel_rfl) (by kernel_rfl) (fun _ _ _ h => h) (by kernel_rfl) (fun _ h => ex_l1_strs (p := ⟨wr.heap.size, 0, none⟩) rfl (by kernel_rfl) (h.c0)) hH0 ?_
      refine held_take (i := 6) (o := { dst := some 27, op := Op.fieldAddr 85 (Operand.tmp 5) 1, type := 0, pos := "view.go:66", after := #[], guard := none }) (v := .pointer (some ⟨wr.heap.size, 0 + 1, none⟩)) (by kernel_rfl) (by kernel_rfl) (by kernel_rfl) (by kernel_rfl) (fun _ _ _ h => h) (by kernel_rfl) (fun W _ => ex_f_lf_1 (p := ⟨wr.heap.size, 0, none⟩) rfl (by kernel_rfl) W) hH0 ?_
      refine held_take (i := 7) (o := { dst := some 28, op := Op.load 3 (Operand.tmp 27), type := 3, pos := "view.go:66", after := #[{ on := 6, ground := Ground.data }], guard := none }) (v := .int .i64 z) (by kernel_rfl) (by kernel_rfl) (by kernel_rfl) (by kernel_rfl) (fun _ _ _ h => h) (by kernel_rfl) (fun _ h => ex_l1_int (p := ⟨wr.heap.size, 0 + 1, none⟩) rfl (by kernel_rfl) (h.c1)) hH0 ?_
      refine held_callX (i := 8) (o := { dst := some 29, op := Op.call { callee := Callee.value (Operand.func 13), args := #[Operand.tmp 24, Operand.tmp 26, Operand.tmp 28], argTypes := #[28, 24, 3] }, type := 38, pos := "view.go:66", after := #[{ on := 3, ground := Ground.data }, { on := 5, ground := Ground.data }, { on := 7, ground := Ground.data }], guard := none }) (F := 13) (vs := #[.slice (some ad) n9 cap, .slice pa pn pc, .int .i64 z]) (by kernel_rfl) (by kernel_rfl) (by kernel_rfl) (fun _ => by kernel_rfl) (HAT.out _ hH0.below) ?_
      rintro e w1 ⟨qa, qn, qc, ra, rn, rk, rfl, hpo, hro, hb1⟩
      have hH1 := hH0.on hb1
      refine ⟨.agg #[.slice qa qn qc, .int .i64 z, .slice ra rn rk, .int .i64 m9], rfl, hH1, ?_⟩
      have hH2 := hH1.on (below_new w1 (entO (.slice qa qn qc) z (.slice ra rn rk) m9 38))
      have hown9 := own_on hownA (bchain (Below.refl _ _).drew (bchain hb1 (below_new w1 (entO (.slice qa qn qc) z (.slice ra rn rk) m9 38))))
      have hpo9 := own_on hpo (below_new w1 (entO (.slice qa qn qc) z (.slice ra rn rk) m9 38))
      have hro9 := hro.on (below_new w1 (entO (.slice qa qn qc) z (.slice ra rn rk) m9 38))
      have HLo9 : ∀ x ∈ acc, EOwnP (w1.alloc (entO (.slice qa qn qc) z (.slice ra rn rk) m9 38)) wL.heap.size u3 x := fun x hx => (HLoA x hx).on (bchain (Below.refl _ _).drew (bchain hb1 (below_new w1 (entO (.slice qa qn qc) z (.slice ra rn rk) m9 38))))
      refine held_run (i := 9) (o := { dst := some 30, op := Op.buildSlice 32 1 #[(0, Operand.tmp 29)], type := 32, pos := "view.go:66", after := #[{ on := 8, ground := Ground.data }], guard := none }) (v := .slice (some ⟨w1.heap.size, 0, none⟩) 1 1) (w' := (w1.alloc (entO (.slice qa qn qc) z (.slice ra rn rk) m9 38))) (by kernel_rfl) (by kernel_rfl) (by kernel_rfl) (by kernel_rfl) hH2 ?_
      refine held_wp (i := 10) (o := { dst := some 31, op := Op.call { callee := Callee.builtin Builtin.append, args := #[Operand.tmp 21, Operand.tmp 30], argTypes := #[32, 32] }, type := 32, pos := "view.go:66", after := #[{ on := 0, ground := Ground.data }, { on := 9, ground := Ground.data }, { on := 8, ground := Ground.chain }], guard := none }) (R := fun v' w' => w'.ownsRow wL.heap.size 38 4 v' (acc ++ [((⟨p9, z, l9, m9⟩, .slice qa qn qc, .slice ra rn rk) : EE)]).length ((acc ++ [((⟨p9, z, l9, m9⟩, .slice qa qn qc, .slice ra rn rk) : EE)]).flatMap ecell) ∧ World.grownBy (w1.alloc (entO (.slice qa qn qc) z (.slice ra rn rk) m9 38)) w' u3.ownBlock) (by kernel_rfl) (by kernel_rfl) (by kernel_rfl) (fun K9 Q9 hK9 => wp_append_one (f := ecell) (m := 4) ecell_len (Nat.succ_pos 3) (ST := 32) (T := 38) Tryz.underlying32 hI0 hz0 hz1 hz2 rfl (by decide) _ _ rfl wL.heap.size hH2.low u3 acc (by kernel_rfl) hown9 _ ((⟨p9, z, l9, m9⟩, .slice qa qn qc, .slice ra rn rk) : EE) (by kernel_rfl) (new_cells w1 (ecell ((⟨p9, z, l9, m9⟩, .slice qa qn qc, .slice ra rn rk) : EE)) 38) (ecell_one ⟨_, _, _, rfl⟩ ⟨_, _, _, rfl⟩) hroom hK9) ?_
      rintro v2 w3 ⟨hown2, hg2⟩
      have hH3 := hH2.grown hg2 hown9 hlb
      refine ⟨hH3, ?_⟩
      refine held_do (i := 11) (o := { dst := some 3, op := Op.assign (Operand.tmp 31), type := 32, pos := "view.go:66", after := #[{ on := 10, ground := Ground.data }, { on := 10, ground := Ground.chain }, { on := 0, ground := Ground.phase }, { on := 1, ground := Ground.phase }, { on := 2, ground := Ground.phase }, { on := 3, ground := Ground.phase }, { on := 4, ground := Ground.phase }, { on := 5, ground := Ground.phase }, { on := 6, ground := Ground.phase }, { on := 7, ground := Ground.phase }, { on := 8, ground := Ground.phase }, { on := 9, ground := Ground.phase }, { on := 10, ground := Ground.phase }], guard := none }) (v := v2) (by kernel_rfl) (by kernel_rfl) (by kernel_rfl) (by kernel_rfl) hH3 ?_
      refine wpAnyH_done (by kernel_rfl) ?_ _
      simp only [Act.put, List.setIfInBounds_toArray, List.set_cons_zero, List.set_cons_succ]
      go_wp2
      go_roundw
      case rel => exact ⟨k + 1, acc ++ [((⟨p9, z, l9, m9⟩, .slice qa qn qc, .slice ra rn rk) : EE)], rest', by omega, by go_num, by
        have h := HI2.out
        have e : (acc ++ [((⟨p9, z, l9, m9⟩, .slice qa qn qc, .slice ra rn rk) : EE)]).map Prod.fst = acc.map Prod.fst ++ [⟨p9, z, l9, m9⟩] := by rw [List.map_append]; rfl
        rw [← e] at h
        exact h, hown2, fun x hx => by
        obtain ⟨pv0, hc9, hp9⟩ := first_slice HLo9 (y := ((⟨p9, z, l9, m9⟩, .slice qa qn qc, .slice ra rn rk) : EE)) ⟨_, _, _, rfl⟩
        have HY : EOwnP (w1.alloc (entO (.slice qa qn qc) z (.slice ra rn rk) m9 38)) wL.heap.size u3 ((⟨p9, z, l9, m9⟩, .slice qa qn qc, .slice ra rn rk) : EE) := ⟨own_base hpo9 hbwA.size, hro9.mono hbwA.size, fun g e hl q => by
          have h1 := (hro9.lt e).1
          have h2 := (hownA.lt g q).2
          have h3 : wA.drew.heap.size = wA.heap.size := rfl
          omega⟩
        rcases List.mem_append.1 hx with hx | hx
        · exact (HLo9 x hx).grown hown9 hg2 hown2 hc9 hp9
        · rw [List.mem_singleton.1 hx]
          exact HY.grown hown9 hg2 hown2 hc9 hp9, hH3.below⟩
      case measure => simp [intOf]; omega
    · have HE : Hid (acc.map Prod.fst = Vw.of its) := by
        have h1 := HI.out.of
        have h2 := HI.out.lv
        rw [List.drop_eq_nil_of_le (by rw [List.length_map, ← HN.out]; omega)] at h2
        rw [Vw.of_nil h2, List.append_nil] at h1
        exact h1
      go_wp2
      go_ret
      exact ⟨_, acc, rfl, HE.out, entsE_row (rowR.of_own ecell_len hown) fun x hx => (HLo.out x hx).ok, bchain hbSL hbw⟩
end Go.Proofs.YthlhopdlkkeohaaGreatDoor.O

