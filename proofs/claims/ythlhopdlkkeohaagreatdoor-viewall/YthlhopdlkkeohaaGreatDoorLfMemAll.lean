/- Leaves in memory: a slice of them, rows of them that a call owns; slices.SortFunc over leaves · The walks of tree's Keys, Kinds and Deep. -/
import Derived.Test.YthlhopdlkkeohaaGreatDoorThinsAll
import Derived.Test.YthlhopdlkkeohaaGreatDoorAtP2All
/- Leaves in memory: a slice of them, rows of them that a call owns; slices.SortFunc over leaves. -/
namespace Go.Proofs.YthlhopdlkkeohaaGreatDoor.O
open Go.RowKit Go.Shelf

/-- A leaf, its path's slice written out. -/
abbrev LE := Tr.Leaf × Value
def lcell (x : LE) : List Value := [x.2, .int .i64 x.1.2]
theorem lcell_len (x : LE) : (lcell x).length = 2 := rfl
def LOk (w : World) (x : LE) : Prop := U.strsAt w x.2 x.1.1
theorem LOk.on {w w' : World} {x : LE} (h : LOk w x) (hb : Below w.heap.size w w') : LOk w' x := U.strsAt_below h hb (Nat.le_refl _)
theorem LOk.slice {w : World} {x : LE} (h : LOk w x) : ∃ ao n c, x.2 = .slice ao n c := strs_slice h
/-- Its path's slice is a row of the call's own. -/
def LOwn (w : World) (B : Nat) (x : LE) : Prop := w.ownsRow B 9 1 x.2 x.1.1.length (U.cellsS x.1.1)
theorem LOwn.ok {w : World} {B : Nat} {x : LE} (h : LOwn w B x) : LOk w x := U.strsAt_own h
/-- Its numbers are small. -/
def LFine (x : Tr.Leaf) : Prop := (-100 ≤ x.2 ∧ x.2 ≤ 100) ∧ x.1.length ≤ 2000000 ∧ ∀ t ∈ x.1, t.length ≤ 2000000
theorem lcell_one {x : LE} (h : ∃ ao n c, x.2 = .slice ao n c) : ∀ u ∈ lcell x, u.oneCell' = true := by
  obtain ⟨ao, n, c, e⟩ := h
  intro u hu
  simp only [lcell, List.mem_cons, List.not_mem_nil, or_false] at hu
  rcases hu with rfl | rfl
  · rw [e]; rfl
  · rfl
def lvsE (w : World) (v : Value) (xs : List LE) : Prop := rowsIn w lcell v xs ∧ ∀ x ∈ xs, LOk w x
theorem lvsE.on {w w' : World} {v : Value} {xs : List LE} (h : lvsE w v xs) (hb : Below w.heap.size w w') : lvsE w' v xs := ⟨h.1.on hb, fun x hx => (h.2 x hx).on hb⟩
theorem lvsE.slice {w : World} {v : Value} {xs : List LE} (h : lvsE w v xs) : ∃ ao cap, v = .slice ao xs.length cap := by
  obtain ⟨⟨ao, cap, e, _⟩, _⟩ := h
  exact ⟨ao, cap, e⟩
/-- At this place there is this leaf. -/
structure LcAt (w : World) (p : Addr) (x : LE) : Prop where
  c0 : w.cell? p = some x.2
  c1 : w.cell? ⟨p.block, p.off + 1, none⟩ = some (.int .i64 x.1.2)
theorem LcAt.of {w : World} {p : Addr} {x : LE} (h : ∀ j u, (lcell x)[j]? = some u → w.cell? (p.add j) = some u) : LcAt w p x := by
  have e : p.add 1 = ⟨p.block, p.off + 1, none⟩ := by unfold Addr.add; simp
  have e0 : p.add 0 = p := by unfold Addr.add; simp
  refine ⟨by rw [← e0]; exact h 0 _ rfl, ?_⟩
  rw [← e]; exact h 1 _ rfl
theorem LcAt.on {w w' : World} {p : Addr} {x : LE} (h : LcAt w p x) (hb : Below w.heap.size w w') : LcAt w' p x := ⟨keep_cell hb h.c0, keep_cell hb h.c1⟩
theorem LcAt.new (w : World) (x : LE) (T : TypeId) : LcAt (w.alloc (.cells (lcell x).toArray T)) ⟨w.heap.size, 0, none⟩ x := LcAt.of (new_cells w (lcell x) T)
theorem lvsE.get {w : World} {ao : Option Addr} {n cap : Nat} {xs : List LE} (h : lvsE w (.slice ao n cap) xs) {k : Nat} (hk : k < xs.length) :
    ∃ ad, ao = some ad ∧ (∀ j u, (lcell xs[k])[j]? = some u → w.cell? ((ad.add (k * 2)).add j) = some u) ∧ LcAt w (ad.add (k * 2)) xs[k] ∧ LOk w xs[k] := by
  obtain ⟨ad, e, h1⟩ := h.1.get lcell_len (by omega) hk
  exact ⟨ad, e, h1, LcAt.of h1, h.2 _ (List.getElem_mem hk)⟩
theorem lsize77 {cs : List Value} (h : cs.length = 2) : (Tryz.prog.info? 85).map (·.size) = some cs.length := by rw [h]; kernel_rfl
theorem linfo77 : ∃ i0, Tryz.prog.info? 85 = some i0 ∧ i0.zero = some (.agg #[.slice none 0 0, .int .i64 0]) ∧ i0.size = 2 ∧ i0.bytes = 32 := info_parts (by kernel_rfl)
theorem sinfo9 : ∃ i0, Tryz.prog.info? 9 = some i0 ∧ i0.zero = some (.string ⟨#[]⟩) ∧ i0.size = 1 ∧ i0.bytes = 16 := info_parts (by kernel_rfl)
theorem ninfo3 : ∃ i0, Tryz.prog.info? 3 = some i0 ∧ i0.zero = some (.int .i64 0) ∧ i0.size = 1 ∧ i0.bytes = 8 := info_parts (by kernel_rfl)
theorem lvsE_row {w : World} {B : Nat} {v : Value} {xs : List LE} (h : rowR lcell 2 w B v xs) (ho : ∀ x ∈ xs, LOk w x) : lvsE w v xs := ⟨h.rows lcell_len, ho⟩
/-- Another block's change leaves a row. -/
theorem own_but2 {w w' : World} {B s n g : Nat} {e : TypeId} {v : Value} {xs : List Value} (h : w.ownsRow B e s v n xs) (hb : But g w w') (hg : v.ownBlock ≠ some g) : w'.ownsRow B e s v n xs := by
  refine ⟨h.1, ?_⟩
  rcases h.2 with hn | ⟨q, cap, cur, hv, hbq, hq, r⟩
  · exact Or.inl hn
  · exact Or.inr ⟨q, cap, cur, hv, hbq, (hb.block q (Array.getElem?_eq_some_iff.1 hq).1 (fun e => hg (by rw [hv, ← e]; rfl))).trans hq, r⟩
theorem but_setCells {A : World} {g : Nat} : ∀ (vs : List Value) (o : Nat) (w : World), But g A w → But g A (w.setCells g o vs)
  | [], _, _, h => h
  | v :: r, o, w, h => by rw [World.setCells]; exact but_setCells r (o + 1) _ (h.trans (But.set w g o v))

/-! ### Rows of things that are named by others (for a sort that tells a permutation) -/
section
variable {α ι : Type} [Inhabited ι] {f : α → List Value} {m : Nat}
theorem holds_ownK (hf : ∀ x, (f x).length = m) (e : ι → α) (d : List ι) {w : World} {g : Nat} (h : OwnR w g f m (d.map e)) : Go.Sort.HoldsK (fun i => f (e i)) m w g 0 d.toArray := by
  intro j hj
  rw [Go.Sort.size_flatK] at hj
  have hj' : j < d.length * m := by simpa using hj
  rw [Go.Sort.get_flatK _ _ _ _ hj, Nat.zero_add]
  have hm : 0 < m := by
    rcases Nat.eq_zero_or_pos m with q | q
    · rw [q] at hj'; omega
    · exact q
  have hk : j / m < d.length := (Nat.div_lt_iff_lt_mul hm).2 hj'
  have hr : j % m < m := Nat.mod_lt _ hm
  have e1 : d.toArray[j / m]! = d[j / m] := by simp [hk]
  rw [e1]
  obtain ⟨a, b⟩ := h.2 (j / m) (by simpa using hk)
  simp only [List.getElem_map] at a
  have hl : j % m < (f (e d[j / m])).length := by rw [hf]; exact hr
  have e2 : (f (e d[j / m]))[j % m]! = (f (e d[j / m]))[j % m] := getElem!_pos _ (j % m) hl
  have ea : j / m * m + j % m = j := by rw [Nat.mul_comm]; exact Nat.div_add_mod j m
  have c := a (j % m) _ (List.getElem?_eq_getElem hl)
  have k := (b (j % m) hr).2
  rw [ea] at c k
  exact ⟨by rw [c, e2]; rfl, k⟩
theorem own_holdsK (hf : ∀ x, (f x).length = m) (e : ι → α) (d : List ι) {w : World} {g : Nat} (hg : g < w.heap.size) (h : Go.Sort.HoldsK (fun i => f (e i)) m w g 0 d.toArray) : OwnR w g f m (d.map e) := by
  refine ⟨hg, fun k hk => ?_⟩
  have hk' : k < d.length := by simpa using hk
  have e1 : d.toArray[k]! = d[k] := by simp [hk']
  simp only [List.getElem_map]
  have key : ∀ c, c < m → w.cell? ⟨g, k * m + c, none⟩ = (f (e d[k]))[c]? ∧ w.frozen? ⟨g, k * m + c, none⟩ = false := fun c hc => by
    have h0 := h.cell (i := k) (c := c) (by simpa using hk') hc
    rw [e1, Nat.zero_add] at h0
    have hl : c < (f (e d[k])).length := by rw [hf]; exact hc
    refine ⟨h0.1.trans ?_, h0.2⟩
    rw [getElem!_pos _ c hl, List.getElem?_eq_getElem hl]
  refine ⟨fun j v hv => ?_, fun j hj => ?_⟩
  · have hj : j < m := by rw [← hf (e d[k])]; exact (List.getElem?_eq_some_iff.1 hv).1
    exact (key j hj).1.trans hv
  · obtain ⟨a, b⟩ := key j hj
    exact ⟨by rw [a, List.getElem?_eq_getElem (by rw [hf]; exact hj)]; rfl, b⟩
theorem but_sortK {enc : ι → List Value} (w : World) (g n : Nat) (d : Array ι) (os : Array Obj) : But g w (Go.Proofs.sortWorldK enc m w g 0 n d os) := by
  refine ⟨rfl, rfl, rfl, size_sortWorldK_c enc m w g 0 n d os, fun k hk hne => ?_⟩
  unfold sortWorldK
  rw [Go.Sort.heap_grow_old _ _ (by rw [Go.Sort.size_putRowK]; exact hk)]
  unfold Go.Sort.putRowK Go.Sort.putRow Go.Sort.mapBlock
  show (w.heap.modify g _)[k]? = _
  rw [Array.getElem?_modify, if_neg (by omega)]
end

theorem extract_all {α : Type} (d : Array α) (n : Nat) (h : d.size = n) : d.extract 0 n = d := by subst h; simp
def cfL {n : Nat} (e : Fin n → LE) (i j : Fin n) : Int := Tr.lcomp (e i).1 (e j).1
theorem swoL {n : Nat} (e : Fin n → LE) : Go.Sort.SWO (ltOf (cfL e)) where
  irrefl i := by
    unfold ltOf cfL
    rw [decide_eq_false_iff_not]
    exact Tr.lord.irrefl _
  trans i j k h1 h2 := by
    unfold ltOf cfL at *
    rw [decide_eq_true_eq] at *
    exact Tr.lord.trans _ _ _ h1 h2
  ntrans i j k h1 h2 := by
    unfold ltOf cfL at *
    rw [decide_eq_false_iff_not] at *
    intro q
    rcases Tr.lord.tri (e i).1 (e j).1 with t | ⟨t, _⟩ | ⟨t, _⟩
    · exact h1 t
    · rw [t] at q; exact h2 q
    · exact h2 (Tr.lord.trans _ _ _ t q)
theorem eg34 : ∀ args w, (callFunc 74 args).run Tryz.prog w = .ok (.enter 74 args) w := enters_of Tryz.func74 (by kernel_rfl) rfl
theorem sortL_any (v : Value) (xs : List LE) (B : Nat) (w0 w : World) (hb : Below B w0 w) (h : rowR lcell 2 w B v xs) (hfine : ∀ x ∈ xs, LFine x.1) (hown : ∀ x ∈ xs, LOwn w B x) (hsep : ∀ x ∈ xs, ∀ g, v.ownBlock = some g → x.2.ownBlock ≠ some g) (hn : xs.length ≤ 1000000) :
    Calls Tryz.prog 73 #[v, .func (.func 74) #[] #[]] w fun e w' => e = .returned (.tuple #[]) ∧ ∃ ys : List LE, ys.Perm xs ∧ (ys.Pairwise fun a b => Tr.lcomp a.1 b.1 ≤ 0) ∧ rowR lcell 2 w' B v ys ∧ (∀ x ∈ ys, LOwn w' B x) ∧ Below B w0 w' := by
  by_cases h0 : xs = []
  · subst h0
    obtain ⟨ao, cap, rfl⟩ := h.slice
    have k : Calls Tryz.prog 73 #[.slice ao 0 cap, .func (.func 74) #[] #[]] w fun e w' => e = .returned (.tuple #[]) ∧ w' = w := AnyF.slices_SortFunc_none laySort ao cap _ w
    refine k.mono ?_
    rintro e w' ⟨rfl, rfl⟩
    exact ⟨rfl, [], List.Perm.refl _, List.Pairwise.nil, h, hown, hb⟩
  · have hpos : 0 < xs.length := List.length_pos_iff.2 h0
    rcases h with ⟨_, e⟩ | ⟨g, cap, rfl, h2, h3, h4, h5⟩
    · exact absurd e h0
    · have inst : Inhabited (Fin xs.length) := ⟨⟨0, hpos⟩⟩
      obtain ⟨e, he⟩ : ∃ e : Fin xs.length → LE, e = fun i => xs[i] := ⟨_, rfl⟩
      obtain ⟨d, hd⟩ : ∃ d : List (Fin xs.length), d = List.finRange xs.length := ⟨_, rfl⟩
      have hdl : d.length = xs.length := by rw [hd]; simp
      have hde : d.map e = xs := by
        rw [hd, he]
        apply List.ext_getElem
        · simp
        · intro i h1 h2; simp
      have hmem : ∀ i, e i ∈ xs := fun i => by rw [he]; exact List.getElem_mem _
      have hH : Go.Sort.HoldsK (fun i => lcell (e i)) 2 w g 0 d.toArray := holds_ownK lcell_len e d (by rw [hde]; exact h5)
      have hcmp : CmpLays Tryz.prog 74 #[] (fun i => lcell (e i)) 2 (cfL e) g 0 d.toArray.size w := by
        intro m os dk _ i j
        have hB := but_sortK (m := 2) (enc := fun i => lcell (e i)) w g m dk os
        have oi := own_but2 (hown _ (hmem i)) hB (hsep _ (hmem i) g rfl)
        have oj := own_but2 (hown _ (hmem j)) hB (hsep _ (hmem j) g rfl)
        obtain ⟨fi, li, _⟩ := hfine _ (hmem i)
        obtain ⟨fj, lj, _⟩ := hfine _ (hmem j)
        refine (lcompare_any (e i).2 (e j).2 (e i).1.2 (e j).1.2 (e i).1.1 (e j).1.1 _ fi fj li lj (U.strsAt_own oi) (U.strsAt_own oj)).mono ?_
        rintro r w' ⟨rfl, rfl⟩
        refine ⟨rfl, 0, #[.cells #[(e i).2, .int .i64 (e i).1.2] 85, .cells #[(e j).2, .int .i64 (e j).1.2] 85], ?_⟩
        rw [Go.Sort.alloc_eq_grow, Go.Sort.alloc_eq_grow, Go.Sort.grow_grow]
        rfl
      have k := AnyQ.slices_SortFunc laySort 2 Tryz.isAgg85 Tryz.sizeOf85 (fun i => lcell (e i)) (fun i => rfl) (fun i => lcell_one (LOwn.ok (hown _ (hmem i))).slice) (cfL e) (swoL e) 74 #[] g 0 cap d.toArray w eg34 hcmp hH h5.1 (by simp; omega)
      rw [List.size_toArray, hdl] at k
      change Calls Tryz.prog 73 _ _ _ at k
      refine k.mono ?_
      rintro r w' ⟨rfl, d', n, os, ⟨p1, _, p3⟩, hs, rfl⟩
      have hsz : d'.size = xs.length := by rw [p1]; simp [hdl]
      have hB := but_sortK (m := 2) (enc := fun i => lcell (e i)) w g n d' os
      have hp : d'.toList.Perm d := by
        have e1 : d'.extract 0 xs.length = d' := extract_all _ _ hsz
        have e2 : d.toArray.extract 0 xs.length = d.toArray := extract_all _ _ (by simpa using hdl)
        rw [e1, e2] at p3
        simpa using p3
      have hg' : g < (Go.Proofs.sortWorldK (fun i => lcell (e i)) 2 w g 0 n d' os).heap.size := Nat.lt_of_lt_of_le h5.1 hB.size
      have hO : OwnR (Go.Proofs.sortWorldK (fun i => lcell (e i)) 2 w g 0 n d' os) g lcell 2 (d'.toList.map e) := by
        refine own_holdsK lcell_len e d'.toList hg' ?_
        rw [Array.toArray_toList]
        exact holdsK_sortWorldK_c (fun i => lcell (e i)) 2 w g 0 d.toArray d' n os hH h5.1 (by rw [hsz]; simp [hdl])
      have hyl : (d'.toList.map e).length = xs.length := by simp [hsz]
      have hm2 : ∀ x ∈ d'.toList.map e, x ∈ xs := fun x hx => by
        obtain ⟨i, _, rfl⟩ := List.mem_map.1 hx
        exact hmem i
      refine ⟨rfl, d'.toList.map e, ?_, ?_, .inr ⟨g, cap, by rw [hyl], by rw [hyl]; exact h2, h3, h4, hO⟩, fun x hx => own_but2 (hown _ (hm2 x hx)) hB (hsep _ (hm2 x hx) g rfl), ?_⟩
      · have := hp.map e
        rwa [hde] at this
      · rw [List.pairwise_map, List.pairwise_iff_getElem]
        intro i j hi hj hij
        have hs1 := hs i j (Nat.zero_le _) hij (by simpa [hsz] using hj)
        have hi' : i < d'.size := by simpa using hi
        have hj' : j < d'.size := by simpa using hj
        rw [getElem!_pos d' i hi', getElem!_pos d' j hj'] at hs1
        unfold ltOf cfL at hs1
        rw [decide_eq_false_iff_not] at hs1
        have t := Tr.lord.turn (e d'[j]).1 (e d'[i]).1
        simp only [Array.getElem_toList]
        omega
      · exact hb.trans (hB.below h4 (by have := h5.1; omega))
end Go.Proofs.YthlhopdlkkeohaaGreatDoor.O
/- The walks of tree's Keys, Kinds and Deep. -/
namespace Go.Proofs.YthlhopdlkkeohaaGreatDoor.O
open Go.RowKit

theorem IVar3 {w W : World} {x : IE} (hb : Below (w.alloc (.cells (icell x).toArray 76)).heap.size (w.alloc (.cells (icell x).toArray 76)) W) : W.cell? ⟨w.heap.size, 3, none⟩ = some (.int .i64 x.1.o.k) := keep_cell hb (IcAt.new w x 76).c3
theorem fm_len {α β : Type} (f : α → Option β) : ∀ l : List α, (l.filterMap f).length ≤ l.length
  | [] => by simp
  | x :: l => by
    have := fm_len f l
    rw [List.filterMap_cons]
    split
    · simp only [List.length_cons]; omega
    · simp only [List.length_cons]; omega
theorem next_some {p : List (List UInt8)} {i : Lv.Item} (h : p.length < i.o.p.length) (hu : Pt.under i.o.p p = true) : Tr.next p i = some i.o.p[p.length] := by
  unfold Tr.next
  rw [if_pos ⟨h, hu⟩, List.getElem?_eq_getElem h]
theorem next_none1 {p : List (List UInt8)} {i : Lv.Item} (h : ¬ p.length < i.o.p.length) : Tr.next p i = none := by
  unfold Tr.next
  rw [if_neg fun q => h q.1]
theorem next_none2 {p : List (List UInt8)} {i : Lv.Item} (h : Pt.under i.o.p p = false) : Tr.next p i = none := by
  unfold Tr.next
  rw [if_neg fun q => by rw [h] at q; cases q.2]
theorem short_sizes {o : Os.Op} (h : Os.short o = true) : o.p.length ≤ 2000000 ∧ ∀ t ∈ o.p, t.length ≤ 2000000 := by
  have h1 := (short_parts h).1
  exact ⟨by have := h1.1; omega, fun t ht => by have := h1.2 t ht; omega⟩

end Go.Proofs.YthlhopdlkkeohaaGreatDoor.O
