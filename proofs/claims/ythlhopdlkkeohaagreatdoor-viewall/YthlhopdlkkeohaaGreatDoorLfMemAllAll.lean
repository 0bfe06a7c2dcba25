/- Leaves in memory: a slice of them, rows of them that a call owns; slices.SortFunc over leaves · The walks of tree's Keys, Kinds and Deep · The walk of slices.CompactFunc, at leaves · Small laws on worlds that all texts of this seat share · The walks of the dot's own functions, and of the document's: is it right, how two stand. -/
import Derived.Test.YthlhopdlkkeohaaGreatDoorThinsAllAll
import Derived.Test.YthlhopdlkkeohaaGreatDoorLCompsAll
import Derived.Deep.RegionHeld3
import Derived.Test.YthlhopdlkkeohaaGreatDoorQuotesAll
import Derived.Test.YthlhopdlkkeohaaGreatDoorPlainAll
import Derived.WalkKit
import Derived.Deep.RegionWith
import Derived.Deep.Quiet
/- Leaves in memory: a slice of them, rows of them that a call owns; slices.SortFunc over leaves · The walks of tree's Keys, Kinds and Deep. -/
/- Leaves in memory: a slice of them, rows of them that a call owns; slices.SortFunc over leaves. -/
namespace Go.Proofs.YthlhopdlkkeohaaGreatDoor.O
open Go.RowKit Go.Shelf

/-- A leaf, its path's slice written out. -/
abbrev LE := Tr.Leaf × Value
def lcell (x : LE) : List Value := [x.2, .int .i64 x.1.2]
theorem lcell_len (x : LE) : (lcell x).length = 2 := rfl
def LOk (w : World) (x : LE) : Prop := U.strsAt w x.2 x.1.1
theorem LOk.on {w w' : World} {x : LE} (h : LOk w x) (hb : Below w.heap.size w w') : LOk w' x := U.strsAt_below h hb (Nat.le_refl _)
theorem LOk.slice {w : World} {x : LE} (h : LOk w x) : ∃ ao n c, x.2 = .slice ao n c := strs_slice h
/-- Its path's slice is a row of the call's own. -/
def LOwn (w : World) (B : Nat) (x : LE) : Prop := w.ownsRow B 9 1 x.2 x.1.1.length (U.cellsS x.1.1)
theorem LOwn.ok {w : World} {B : Nat} {x : LE} (h : LOwn w B x) : LOk w x := U.strsAt_own h
/-- Its numbers are small. -/
def LFine (x : Tr.Leaf) : Prop := (-100 ≤ x.2 ∧ x.2 ≤ 100) ∧ x.1.length ≤ 2000000 ∧ ∀ t ∈ x.1, t.length ≤ 2000000
theorem lcell_one {x : LE} (h : ∃ ao n c, x.2 = .slice ao n c) : ∀ u ∈ lcell x, u.oneCell' = true := by
  obtain ⟨ao, n, c, e⟩ := h
  intro u hu
  simp only [lcell, List.mem_cons, List.not_mem_nil, or_false] at hu
  rcases hu with rfl | rfl
  · rw [e]; rfl
  · rfl
def lvsE (w : World) (v : Value) (xs : List LE) : Prop := rowsIn w lcell v xs ∧ ∀ x ∈ xs, LOk w x
theorem lvsE.on {w w' : World} {v : Value} {xs : List LE} (h : lvsE w v xs) (hb : Below w.heap.size w w') : lvsE w' v xs := ⟨h.1.on hb, fun x hx => (h.2 x hx).on hb⟩
theorem lvsE.slice {w : World} {v : Value} {xs : List LE} (h : lvsE w v xs) : ∃ ao cap, v = .slice ao xs.length cap := by
  obtain ⟨⟨ao, cap, e, _⟩, _⟩ := h
  exact ⟨ao, cap, e⟩
/-- At this place there is this leaf. -/
structure LcAt (w : World) (p : Addr) (x : LE) : Prop where
  c0 : w.cell? p = some x.2
  c1 : w.cell? ⟨p.block, p.off + 1, none⟩ = some (.int .i64 x.1.2)
theorem LcAt.of {w : World} {p : Addr} {x : LE} (h : ∀ j u, (lcell x)[j]? = some u → w.cell? (p.add j) = some u) : LcAt w p x := by
  have e : p.add 1 = ⟨p.block, p.off + 1, none⟩ := by unfold Addr.add; simp
  have e0 : p.add 0 = p := by unfold Addr.add; simp
  refine ⟨by rw [← e0]; exact h 0 _ rfl, ?_⟩
  rw [← e]; exact h 1 _ rfl
theorem LcAt.on {w w' : World} {p : Addr} {x : LE} (h : LcAt w p x) (hb : Below w.heap.size w w') : LcAt w' p x := ⟨keep_cell hb h.c0, keep_cell hb h.c1⟩
theorem LcAt.new (w : World) (x : LE) (T : TypeId) : LcAt (w.alloc (.cells (lcell x).toArray T)) ⟨w.heap.size, 0, none⟩ x := LcAt.of (new_cells w (lcell x) T)
theorem lvsE.get {w : World} {ao : Option Addr} {n cap : Nat} {xs : List LE} (h : lvsE w (.slice ao n cap) xs) {k : Nat} (hk : k < xs.length) :
    ∃ ad, ao = some ad ∧ (∀ j u, (lcell xs[k])[j]? = some u → w.cell? ((ad.add (k * 2)).add j) = some u) ∧ LcAt w (ad.add (k * 2)) xs[k] ∧ LOk w xs[k] := by
  obtain ⟨ad, e, h1⟩ := h.1.get lcell_len (by omega) hk
  exact ⟨ad, e, h1, LcAt.of h1, h.2 _ (List.getElem_mem hk)⟩
theorem lsize77 {cs : List Value} (h : cs.length = 2) : (Tryz.prog.info? 85).map (·.size) = some cs.length := by rw [h]; kernel_rfl
theorem linfo77 : ∃ i0, Tryz.prog.info? 85 = some i0 ∧ i0.zero = some (.agg #[.slice none 0 0, .int .i64 0]) ∧ i0.size = 2 ∧ i0.bytes = 32 := info_parts (by kernel_rfl)
theorem sinfo9 : ∃ i0, Tryz.prog.info? 9 = some i0 ∧ i0.zero = some (.string ⟨#[]⟩) ∧ i0.size = 1 ∧ i0.bytes = 16 := info_parts (by kernel_rfl)
theorem ninfo3 : ∃ i0, Tryz.prog.info? 3 = some i0 ∧ i0.zero = some (.int .i64 0) ∧ i0.size = 1 ∧ i0.bytes = 8 := info_parts (by kernel_rfl)
theorem lvsE_row {w : World} {B : Nat} {v : Value} {xs : List LE} (h : rowR lcell 2 w B v xs) (ho : ∀ x ∈ xs, LOk w x) : lvsE w v xs := ⟨h.rows lcell_len, ho⟩
/-- Another block's change leaves a row. -/
theorem own_but2 {w w' : World} {B s n g : Nat} {e : TypeId} {v : Value} {xs : List Value} (h : w.ownsRow B e s v n xs) (hb : But g w w') (hg : v.ownBlock ≠ some g) : w'.ownsRow B e s v n xs := by
  refine ⟨h.1, ?_⟩
  rcases h.2 with hn | ⟨q, cap, cur, hv, hbq, hq, r⟩
  · exact Or.inl hn
  · exact Or.inr ⟨q, cap, cur, hv, hbq, (hb.block q (Array.getElem?_eq_some_iff.1 hq).1 (fun e => hg (by rw [hv, ← e]; rfl))).trans hq, r⟩
theorem but_setCells {A : World} {g : Nat} : ∀ (vs : List Value) (o : Nat) (w : World), But g A w → But g A (w.setCells g o vs)
  | [], _, _, h => h
  | v :: r, o, w, h => by rw [World.setCells]; exact but_setCells r (o + 1) _ (h.trans (But.set w g o v))

/-! ### Rows of things that are named by others (for a sort that tells a permutation) -/
section
variable {α ι : Type} [Inhabited ι] {f : α → List Value} {m : Nat}
theorem holds_ownK (hf : ∀ x, (f x).length = m) (e : ι → α) (d : List ι) {w : World} {g : Nat} (h : OwnR w g f m (d.map e)) : Go.Sort.HoldsK (fun i => f (e i)) m w g 0 d.toArray := by
  intro j hj
  rw [Go.Sort.size_flatK] at hj
  have hj' : j < d.length * m := by simpa using hj
  rw [Go.Sort.get_flatK _ _ _ _ hj, Nat.zero_add]
  have hm : 0 < m := by
    rcases Nat.eq_zero_or_pos m with q | q
    · rw [q] at hj'; omega
    · exact q
  have hk : j / m < d.length := (Nat.div_lt_iff_lt_mul hm).2 hj'
  have hr : j % m < m := Nat.mod_lt _ hm
  have e1 : d.toArray[j / m]! = d[j / m] := by simp [hk]
  rw [e1]
  obtain ⟨a, b⟩ := h.2 (j / m) (by simpa using hk)
  simp only [List.getElem_map] at a
  have hl : j % m < (f (e d[j / m])).length := by rw [hf]; exact hr
  have e2 : (f (e d[j / m]))[j % m]! = (f (e d[j / m]))[j % m] := getElem!_pos _ (j % m) hl
  have ea : j / m * m + j % m = j := by rw [Nat.mul_comm]; exact Nat.div_add_mod j m
  have c := a (j % m) _ (List.getElem?_eq_getElem hl)
  have k := (b (j % m) hr).2
  rw [ea] at c k
  exact ⟨by rw [c, e2]; rfl, k⟩
theorem own_holdsK (hf : ∀ x, (f x).length = m) (e : ι → α) (d : List ι) {w : World} {g : Nat} (hg : g < w.heap.size) (h : Go.Sort.HoldsK (fun i => f (e i)) m w g 0 d.toArray) : OwnR w g f m (d.map e) := by
  refine ⟨hg, fun k hk => ?_⟩
  have hk' : k < d.length := by simpa using hk
  have e1 : d.toArray[k]! = d[k] := by simp [hk']
  simp only [List.getElem_map]
  have key : ∀ c, c < m → w.cell? ⟨g, k * m + c, none⟩ = (f (e d[k]))[c]? ∧ w.frozen? ⟨g, k * m + c, none⟩ = false := fun c hc => by
    have h0 := h.cell (i := k) (c := c) (by simpa using hk') hc
    rw [e1, Nat.zero_add] at h0
    have hl : c < (f (e d[k])).length := by rw [hf]; exact hc
    refine ⟨h0.1.trans ?_, h0.2⟩
    rw [getElem!_pos _ c hl, List.getElem?_eq_getElem hl]
  refine ⟨fun j v hv => ?_, fun j hj => ?_⟩
  · have hj : j < m := by rw [← hf (e d[k])]; exact (List.getElem?_eq_some_iff.1 hv).1
    exact (key j hj).1.trans hv
  · obtain ⟨a, b⟩ := key j hj
    exact ⟨by rw [a, List.getElem?_eq_getElem (by rw [hf]; exact hj)]; rfl, b⟩
theorem but_sortK {enc : ι → List Value} (w : World) (g n : Nat) (d : Array ι) (os : Array Obj) : But g w (Go.Proofs.sortWorldK enc m w g 0 n d os) := by
  refine ⟨rfl, rfl, rfl, size_sortWorldK_c enc m w g 0 n d os, fun k hk hne => ?_⟩
  unfold sortWorldK
  rw [Go.Sort.heap_grow_old _ _ (by rw [Go.Sort.size_putRowK]; exact hk)]
  unfold Go.Sort.putRowK Go.Sort.putRow Go.Sort.mapBlock
  show (w.heap.modify g _)[k]? = _
  rw [Array.getElem?_modify, if_neg (by omega)]
end

theorem extract_all {α : Type} (d : Array α) (n : Nat) (h : d.size = n) : d.extract 0 n = d := by subst h; simp
def cfL {n : Nat} (e : Fin n → LE) (i j : Fin n) : Int := Tr.lcomp (e i).1 (e j).1
theorem swoL {n : Nat} (e : Fin n → LE) : Go.Sort.SWO (ltOf (cfL e)) where
  irrefl i := by
    unfold ltOf cfL
    rw [decide_eq_false_iff_not]
    exact Tr.lord.irrefl _
  trans i j k h1 h2 := by
    unfold ltOf cfL at *
    rw [decide_eq_true_eq] at *
    exact Tr.lord.trans _ _ _ h1 h2
  ntrans i j k h1 h2 := by
    unfold ltOf cfL at *
    rw [decide_eq_false_iff_not] at *
    intro q
    rcases Tr.lord.tri (e i).1 (e j).1 with t | ⟨t, _⟩ | ⟨t, _⟩
    · exact h1 t
    · rw [t] at q; exact h2 q
    · exact h2 (Tr.lord.trans _ _ _ t q)
theorem eg34 : ∀ args w, (callFunc 74 args).run Tryz.prog w = .ok (.enter 74 args) w := enters_of Tryz.func74 (by kernel_rfl) rfl
theorem sortL_any (v : Value) (xs : List LE) (B : Nat) (w0 w : World) (hb : Below B w0 w) (h : rowR lcell 2 w B v xs) (hfine : ∀ x ∈ xs, LFine x.1) (hown : ∀ x ∈ xs, LOwn w B x) (hsep : ∀ x ∈ xs, ∀ g, v.ownBlock = some g → x.2.ownBlock ≠ some g) (hn : xs.length ≤ 1000000) :
    Calls Tryz.prog 73 #[v, .func (.func 74) #[] #[]] w fun e w' => e = .returned (.tuple #[]) ∧ ∃ ys : List LE, ys.Perm xs ∧ (ys.Pairwise fun a b => Tr.lcomp a.1 b.1 ≤ 0) ∧ rowR lcell 2 w' B v ys ∧ (∀ x ∈ ys, LOwn w' B x) ∧ Below B w0 w' := by
  by_cases h0 : xs = []
  · subst h0
    obtain ⟨ao, cap, rfl⟩ := h.slice
    have k : Calls Tryz.prog 73 #[.slice ao 0 cap, .func (.func 74) #[] #[]] w fun e w' => e = .returned (.tuple #[]) ∧ w' = w := AnyF.slices_SortFunc_none laySort ao cap _ w
    refine k.mono ?_
    rintro e w' ⟨rfl, rfl⟩
    exact ⟨rfl, [], List.Perm.refl _, List.Pairwise.nil, h, hown, hb⟩
  · have hpos : 0 < xs.length := List.length_pos_iff.2 h0
    rcases h with ⟨_, e⟩ | ⟨g, cap, rfl, h2, h3, h4, h5⟩
    · exact absurd e h0
    · have inst : Inhabited (Fin xs.length) := ⟨⟨0, hpos⟩⟩
      obtain ⟨e, he⟩ : ∃ e : Fin xs.length → LE, e = fun i => xs[i] := ⟨_, rfl⟩
      obtain ⟨d, hd⟩ : ∃ d : List (Fin xs.length), d = List.finRange xs.length := ⟨_, rfl⟩
      have hdl : d.length = xs.length := by rw [hd]; simp
      have hde : d.map e = xs := by
        rw [hd, he]
        apply List.ext_getElem
        · simp
        · intro i h1 h2; simp
      have hmem : ∀ i, e i ∈ xs := fun i => by rw [he]; exact List.getElem_mem _
      have hH : Go.Sort.HoldsK (fun i => lcell (e i)) 2 w g 0 d.toArray := holds_ownK lcell_len e d (by rw [hde]; exact h5)
      have hcmp : CmpLays Tryz.prog 74 #[] (fun i => lcell (e i)) 2 (cfL e) g 0 d.toArray.size w := by
        intro m os dk _ i j
        have hB := but_sortK (m := 2) (enc := fun i => lcell (e i)) w g m dk os
        have oi := own_but2 (hown _ (hmem i)) hB (hsep _ (hmem i) g rfl)
        have oj := own_but2 (hown _ (hmem j)) hB (hsep _ (hmem j) g rfl)
        obtain ⟨fi, li, _⟩ := hfine _ (hmem i)
        obtain ⟨fj, lj, _⟩ := hfine _ (hmem j)
        refine (lcompare_any (e i).2 (e j).2 (e i).1.2 (e j).1.2 (e i).1.1 (e j).1.1 _ fi fj li lj (U.strsAt_own oi) (U.strsAt_own oj)).mono ?_
        rintro r w' ⟨rfl, rfl⟩
        refine ⟨rfl, 0, #[.cells #[(e i).2, .int .i64 (e i).1.2] 85, .cells #[(e j).2, .int .i64 (e j).1.2] 85], ?_⟩
        rw [Go.Sort.alloc_eq_grow, Go.Sort.alloc_eq_grow, Go.Sort.grow_grow]
        rfl
      have k := AnyQ.slices_SortFunc laySort 2 Tryz.isAgg85 Tryz.sizeOf85 (fun i => lcell (e i)) (fun i => rfl) (fun i => lcell_one (LOwn.ok (hown _ (hmem i))).slice) (cfL e) (swoL e) 74 #[] g 0 cap d.toArray w eg34 hcmp hH h5.1 (by simp; omega)
      rw [List.size_toArray, hdl] at k
      change Calls Tryz.prog 73 _ _ _ at k
      refine k.mono ?_
      rintro r w' ⟨rfl, d', n, os, ⟨p1, _, p3⟩, hs, rfl⟩
      have hsz : d'.size = xs.length := by rw [p1]; simp [hdl]
      have hB := but_sortK (m := 2) (enc := fun i => lcell (e i)) w g n d' os
      have hp : d'.toList.Perm d := by
        have e1 : d'.extract 0 xs.length = d' := extract_all _ _ hsz
        have e2 : d.toArray.extract 0 xs.length = d.toArray := extract_all _ _ (by simpa using hdl)
        rw [e1, e2] at p3
        simpa using p3
      have hg' : g < (Go.Proofs.sortWorldK (fun i => lcell (e i)) 2 w g 0 n d' os).heap.size := Nat.lt_of_lt_of_le h5.1 hB.size
      have hO : OwnR (Go.Proofs.sortWorldK (fun i => lcell (e i)) 2 w g 0 n d' os) g lcell 2 (d'.toList.map e) := by
        refine own_holdsK lcell_len e d'.toList hg' ?_
        rw [Array.toArray_toList]
        exact holdsK_sortWorldK_c (fun i => lcell (e i)) 2 w g 0 d.toArray d' n os hH h5.1 (by rw [hsz]; simp [hdl])
      have hyl : (d'.toList.map e).length = xs.length := by simp [hsz]
      have hm2 : ∀ x ∈ d'.toList.map e, x ∈ xs := fun x hx => by
        obtain ⟨i, _, rfl⟩ := List.mem_map.1 hx
        exact hmem i
      refine ⟨rfl, d'.toList.map e, ?_, ?_, .inr ⟨g, cap, by rw [hyl], by rw [hyl]; exact h2, h3, h4, hO⟩, fun x hx => own_but2 (hown _ (hm2 x hx)) hB (hsep _ (hm2 x hx) g rfl), ?_⟩
      · have := hp.map e
        rwa [hde] at this
      · rw [List.pairwise_map, List.pairwise_iff_getElem]
        intro i j hi hj hij
        have hs1 := hs i j (Nat.zero_le _) hij (by simpa [hsz] using hj)
        have hi' : i < d'.size := by simpa using hi
        have hj' : j < d'.size := by simpa using hj
        rw [getElem!_pos d' i hi', getElem!_pos d' j hj'] at hs1
        unfold ltOf cfL at hs1
        rw [decide_eq_false_iff_not] at hs1
        have t := Tr.lord.turn (e d'[j]).1 (e d'[i]).1
        simp only [Array.getElem_toList]
        omega
      · exact hb.trans (hB.below h4 (by have := h5.1; omega))
end Go.Proofs.YthlhopdlkkeohaaGreatDoor.O
/- The walks of tree's Keys, Kinds and Deep. -/
namespace Go.Proofs.YthlhopdlkkeohaaGreatDoor.O
open Go.RowKit

theorem IVar3 {w W : World} {x : IE} (hb : Below (w.alloc (.cells (icell x).toArray 76)).heap.size (w.alloc (.cells (icell x).toArray 76)) W) : W.cell? ⟨w.heap.size, 3, none⟩ = some (.int .i64 x.1.o.k) := keep_cell hb (IcAt.new w x 76).c3
theorem fm_len {α β : Type} (f : α → Option β) : ∀ l : List α, (l.filterMap f).length ≤ l.length
  | [] => by simp
  | x :: l => by
    have := fm_len f l
    rw [List.filterMap_cons]
    split
    · simp only [List.length_cons]; omega
    · simp only [List.length_cons]; omega
theorem next_some {p : List (List UInt8)} {i : Lv.Item} (h : p.length < i.o.p.length) (hu : Pt.under i.o.p p = true) : Tr.next p i = some i.o.p[p.length] := by
  unfold Tr.next
  rw [if_pos ⟨h, hu⟩, List.getElem?_eq_getElem h]
theorem next_none1 {p : List (List UInt8)} {i : Lv.Item} (h : ¬ p.length < i.o.p.length) : Tr.next p i = none := by
  unfold Tr.next
  rw [if_neg fun q => h q.1]
theorem next_none2 {p : List (List UInt8)} {i : Lv.Item} (h : Pt.under i.o.p p = false) : Tr.next p i = none := by
  unfold Tr.next
  rw [if_neg fun q => by rw [h] at q; cases q.2]
theorem short_sizes {o : Os.Op} (h : Os.short o = true) : o.p.length ≤ 2000000 ∧ ∀ t ∈ o.p, t.length ≤ 2000000 := by
  have h1 := (short_parts h).1
  exact ⟨by have := h1.1; omega, fun t ht => by have := h1.2 t ht; omega⟩

end Go.Proofs.YthlhopdlkkeohaaGreatDoor.O
/- The walk of slices.CompactFunc, at leaves. -/
namespace Go.Proofs.YthlhopdlkkeohaaGreatDoor.O
open Go.RowKit

theorem OwnR.cells2 {w : World} {g : Nat} {l : List LE} (h : OwnR w g lcell 2 l) {k : Nat} (hk : k < l.length) :
    w.cell? ⟨g, k * 2, none⟩ = some l[k].2 ∧ w.cell? ⟨g, k * 2 + 1, none⟩ = some (.int .i64 l[k].1.2) := by
  have h1 := (h.2 k hk).1
  exact ⟨h1 0 _ rfl, h1 1 _ rfl⟩
abbrev lzero : Array Value := #[.slice none 0 0, .int .i64 0]
theorem lclears {w : World} {g : Nat} {cur : List LE} (h : OwnR w g lcell 2 cur) (i n : Nat) (hi : i < n) (hn : cur.length = n) (c : Nat) (ty : TypeId) : (Builtin.clear_ #[82] ty #[.slice (some ⟨g, i * 2, none⟩) (n - i) c]).run Tryz.prog w = .ok (.tuple #[]) (w.setCells g (i * 2) (Builtin.zeroCells lzero (n - i)).toList) := by
  have hst := OwnR.clears (P := Tryz.prog) (m := 2) lzero rfl (Nat.succ_pos 1) (by decide) h i (n - i) (by omega)
  obtain ⟨m, hm⟩ : ∃ m, n - i = m + 1 := ⟨n - i - 1, by omega⟩
  rw [hm] at hst ⊢
  simp [Builtin.clear_, run_underlying Tryz.underlying82, hst, Value.cells, Result.andThen]
/-- Two leaves of the row, while they are held against each other. -/
structure L2 (w0 : World) (g i j : Nat) (x y : LE) (W : World) : Prop where
  x0 : W.cell? ⟨g, i, none⟩ = some x.2
  x1 : W.cell? ⟨g, i + 1, none⟩ = some (.int .i64 x.1.2)
  y0 : W.cell? ⟨g, j, none⟩ = some y.2
  y1 : W.cell? ⟨g, j + 1, none⟩ = some (.int .i64 y.1.2)
  below : Below w0.heap.size w0 W
theorem L2.on {w0 : World} {g i j : Nat} {x y : LE} {W W' : World} (h : L2 w0 g i j x y W) (hb : Below W.heap.size W W') : L2 w0 g i j x y W' :=
  ⟨keep_cell hb h.x0, keep_cell hb h.x1, keep_cell hb h.y0, keep_cell hb h.y1, bchain h.below hb⟩
theorem L2.drew {w0 : World} {g i j : Nat} {x y : LE} {W : World} (h : L2 w0 g i j x y W) : L2 w0 g i j x y W.drew := ⟨h.x0, h.x1, h.y0, h.y1, h.below.drew⟩
theorem L2.parts {w0 : World} {g i j : Nat} {x y : LE} {W : World} (h : L2 w0 g i j x y W) : W.cell? ⟨g, i, none⟩ = some x.2 ∧ W.cell? ⟨g, i + 1, none⟩ = some (.int .i64 x.1.2) ∧ W.cell? ⟨g, j, none⟩ = some y.2 ∧ W.cell? ⟨g, j + 1, none⟩ = some (.int .i64 y.1.2) ∧ Below w0.heap.size w0 W := ⟨h.x0, h.x1, h.y0, h.y1, h.below⟩
/-- What tree's same tells of two of them, whatever was laid since. -/
theorem same_two {w : World} {x y : LE} (fx : LFine x.1) (fy : LFine y.1) (ox : LOk w x) (oy : LOk w y) : ∀ W, Below w.heap.size w W → Calls Tryz.prog 76 #[.agg #[x.2, .int .i64 x.1.2], .agg #[y.2, .int .i64 y.1.2]] W fun e w' => e = .returned (.bool (decide (x.1 = y.1))) ∧ Below W.heap.size W w' := fun W hb =>
  lsame_any x.2 y.2 x.1.2 y.1.2 x.1.1 y.1.1 W fx.1 fy.1 fx.2.1 fy.2.1 (ox.on hb) (oy.on hb)

set_option maxRecDepth 20000 in
set_option maxHeartbeats 4000000 in
theorem compactL_any (g cap : Nat) (ds : List LE) (B : Nat) (w0 w : World) (hb0 : Below B w0 w) (hB : B ≤ g) (hO : OwnR w g lcell 2 ds) (hn : ds.length ≤ 1000000) (hc : ds.length ≤ cap) (hcm : cap ≤ maxLen) (hfine : ∀ x ∈ ds, LFine x.1) (hown : ∀ x ∈ ds, LOwn w B x) (hsep : ∀ x ∈ ds, x.2.ownBlock ≠ some g) :
    Calls Tryz.prog 75 #[.slice (some ⟨g, 0, none⟩) ds.length cap, .func (.func 76) #[] #[]] w fun e w' => e = .returned (.slice (some ⟨g, 0, none⟩) (Li.ddK Prod.fst ds ds.length).length cap) ∧ OwnR w' g lcell 2 (Li.ddK Prod.fst ds ds.length) ∧ Below B w0 w' ∧ But g w w' := by
  have hcap : cap ≤ 9223372036854775807 := by unfold maxLen at hcm; omega
  have HO : Hid (OwnR w g lcell 2 ds) := hO
  have HB : Hid (B ≤ g) := hB
  have HP : Hid (∀ W, But g w W → ∀ x ∈ ds, LOk W x) := by
    have h : ∀ W, But g w W → ∀ x ∈ ds, LOk W x := fun W hb x hx => LOwn.ok (own_but2 (hown x hx) hb (hsep x hx))
    exact h
  have HF : Hid (∀ x ∈ ds, LFine x.1) := hfine
  clear hO hB hown hsep hfine
  by_cases h2 : ds.length < 2
  · have hf : Li.ddK Prod.fst ds ds.length = ds := by
      match ds, h2 with
      | [], _ => rfl
      | [d], _ => exact Li.ddK_one (by simp)
    rw [hf]
    clear hf
    go_enter Tryz.func75, Tryz.ntmps75
    go_wp2
    go_ret
    exact ⟨rfl, HO.out, hb0, But.refl _ _⟩
  · obtain ⟨n, hn0⟩ : ∃ n, n = ds.length := ⟨_, rfl⟩
    have HN : Hid (n = ds.length) := hn0
    rw [← hn0] at hn hc h2 ⊢
    have HR : Hid (Li.fresh Prod.fst ds 1) := by have h := Li.fresh_one (f := Prod.fst) (ds := ds) (by omega); exact h
    clear hn0
    go_enter Tryz.func75, Tryz.ntmps75
    go_wp2
    go_loopw [5, 6, 7] (fun a _ _ wr => ∃ m : Nat, a = .int .i64 ((m + 1 : Nat) : Int) ∧ m + 1 ≤ n ∧ Hid (Li.fresh Prod.fst ds (m + 1)) ∧ Hid (OwnR wr g lcell 2 ds) ∧ Below B w0 wr ∧ But g w wr) (fun a _ _ _ => n - (intOf a).toNat)
    case atStart => exact ⟨0, by go_num, by omega, HR, HO, hb0, But.refl _ _⟩
    case round =>
      clear HR hb0 HO
      obtain ⟨m, rfl, hmn, HR, HOr, hbw, hbt⟩ := hrel
      by_cases hlt : m + 1 < n
      · have h1 : m + 1 < ds.length := by have := HN.out; omega
        obtain ⟨c0, c1⟩ := HOr.out.cells2 h1
        obtain ⟨d0, d1⟩ := HOr.out.cells2 (k := m) (by omega)
        have HC := same_two (HF.out _ (List.getElem_mem h1)) (HF.out _ (List.getElem_mem (show m < ds.length by omega))) (HP.out _ hbt _ (List.getElem_mem h1)) (HP.out _ hbt _ (List.getElem_mem (show m < ds.length by omega)))
        have hBg : B ≤ wr.heap.size := by have := HOr.out.1; have := HB.out; omega
        have HOn : Hid (∀ W, Below wr.heap.size wr W → OwnR W g lcell 2 ds ∧ Below B w0 W ∧ But g w W) := by
          have h : ∀ W, Below wr.heap.size wr W → OwnR W g lcell 2 ds ∧ Below B w0 W ∧ But g w W := fun W hb => ⟨HOr.out.on hb, hbw.trans (hb.mono hBg), hbt.trans (But.of hb)⟩
          exact h
        have hi0 : (0 : Int) ≤ (m : Int) + 1 := by omega
        have hi1 : (m : Int) + 1 < (n : Int) := by omega
        have hi2 : (0 : Int) ≤ (m : Int) := by omega
        have hi3 : (m : Int) < (n : Int) := by omega
        have hiw : IntKind.i64.wrap (m : Int) = (m : Int) := U.wrap_i64 (by omega) (by omega)
        obtain ⟨xa, xn, xc, ex⟩ := (HP.out _ hbt _ (List.getElem_mem h1)).slice
        obtain ⟨ya, yn, yc, ey⟩ := (HP.out _ hbt _ (List.getElem_mem (show m < ds.length by omega))).slice
        by_cases he : ds[m + 1].1 = ds[m].1
        · have HI : Hid (Li.CInv Prod.fst ds (m + 1) (m + 1 + 1) ds) := by have h := Li.CInv.start HR.out (by omega) h1 (by simpa using he); exact h
          rw [decide_eq_true he] at HC
          clear HR he HOr hbw hbt
          generalize ds[m] = y at *
          generalize ds[m + 1] = x at *
          obtain ⟨⟨xp, xk⟩, xv⟩ := x
          obtain ⟨⟨yp, yk⟩, yv⟩ := y
          simp only at ex ey c0 c1 d0 d1 HC
          subst ex
          subst ey
          go_wp2_with fail
          go_region_held3 (fun W => W.cell? ⟨g, (m + 1) * 2, none⟩ = some (.slice xa xn xc) ∧ W.cell? ⟨g, (m + 1) * 2 + 1, none⟩ = some (.int .i64 xk) ∧ W.cell? ⟨g, m * 2, none⟩ = some (.slice ya yn yc) ∧ W.cell? ⟨g, m * 2 + 1, none⟩ = some (.int .i64 yk) ∧ Below wr.heap.size wr W)
            (first | exact ⟨c0, c1, d0, d1, Below.refl _ _⟩ | exact (L2.drew (x := ((xp, xk), .slice xa xn xc)) (y := ((yp, yk), .slice ya yn yc)) ⟨c0, c1, d0, d1, Below.refl _ _⟩).parts | exact ((L2.drew (x := ((xp, xk), .slice xa xn xc)) (y := ((yp, yk), .slice ya yn yc)) ⟨c0, c1, d0, d1, Below.refl _ _⟩).on hb1).parts)
            (first | (go_at_call 76; refine (HC _ (Below.refl _ wr).drew).mono ?_; rintro e w1 ⟨rfl, hb1⟩))
          have hbx : Below wr.heap.size wr w1 := bchain (Below.refl _ wr).drew hb1
          obtain ⟨hO1, hbw1, hbt1⟩ := HOn.out w1 hbx
          have HO1 : Hid (OwnR w1 g lcell 2 ds) := hO1
          clear c0 c1 d0 d1 HC hO1 HOn hb1 hbx hBg hi0 hi1 hi2 hi3 hiw
          have hsub : ((m : Int) + 1).toNat = m + 1 := by omega
          go_wp2
          go_loopw [5, 7] (fun a b wr => ∃ (k q : Nat) (cur : List LE), a = .int .i64 (k : Int) ∧ b = .int .i64 ((q + 1 : Nat) : Int) ∧ m + 1 + (q + 1) ≤ n ∧ Hid (Li.CInv Prod.fst ds k (m + 1 + (q + 1)) cur) ∧ Hid (OwnR wr g lcell 2 cur) ∧ Below B w0 wr ∧ But g w wr) (fun _ b _ => n - (m + 1) - (intOf b).toNat)
          case atStart => exact ⟨m + 1, 0, ds, by go_num, by go_num, by omega, HI, HO1, hbw1, hbt1⟩
          case round =>
            clear HI HO1 hbw1 hbt1
            obtain ⟨k, q, cur, rfl, rfl, hq, HI, HOc, hbw, hbt⟩ := hrel
            have hcl : cur.length = n := by rw [HN.out]; exact HI.out.1
            have hkj := HI.out.2.1
            by_cases hlt2 : m + 1 + (q + 1) < n
            · have hjd : m + 1 + (q + 1) < ds.length := by have := HN.out; omega
              obtain ⟨a1, a2, a3, e1, e2⟩ := HI.out.at hjd
              obtain ⟨c0, c1⟩ := HOc.out.cells2 a1
              obtain ⟨d0, d1⟩ := HOc.out.cells2 a2
              have hkc : k < cur.length := by omega
              rw [e1] at c0 c1
              rw [e2] at d0 d1
              have HC := same_two (HF.out _ (List.getElem_mem hjd)) (HF.out _ (List.getElem_mem a3)) (HP.out _ hbt _ (List.getElem_mem hjd)) (HP.out _ hbt _ (List.getElem_mem a3))
              have hBg : B ≤ wr.heap.size := by have := HOc.out.1; have := HB.out; omega
              have HOn : Hid (∀ W, Below wr.heap.size wr W → OwnR W g lcell 2 cur ∧ Below B w0 W ∧ But g w W) := by
                have h : ∀ W, Below wr.heap.size wr W → OwnR W g lcell 2 cur ∧ Below B w0 W ∧ But g w W := fun W hb => ⟨HOc.out.on hb, hbw.trans (hb.mono hBg), hbt.trans (But.of hb)⟩
                exact h
              have hj0 : (0 : Int) ≤ (q : Int) + 1 := by omega
              have hj1 : (q : Int) + 1 < (n : Int) - ((m : Int) + 1) := by omega
              have hj2 : (0 : Int) ≤ (q : Int) := by omega
              have hj3 : (q : Int) < (n : Int) - ((m : Int) + 1) := by omega
              have hj4 : (q : Int) + ((m : Int) + 1) < (n : Int) := by omega
              have hj5 : (q : Int) < (n : Int) - (m : Int) - 1 := by omega
              have hj6 : (q : Int) < ((n - (m + 1) : Nat) : Int) := by omega
              have hj7 : q < n - (m + 1) := by omega
              have hjw : IntKind.i64.wrap (q : Int) = (q : Int) := U.wrap_i64 (by omega) (by omega)
              obtain ⟨xa, xn, xc, ex⟩ := (HP.out _ hbt _ (List.getElem_mem hjd)).slice
              obtain ⟨ya, yn, yc, ey⟩ := (HP.out _ hbt _ (List.getElem_mem a3)).slice
              rw [show (m + 1 + (q + 1)) * 2 = (m + 1) * 2 + (q + 1) * 2 by omega] at c0 c1
              rw [show (m + 1 + (q + 1) - 1) * 2 = (m + 1) * 2 + q * 2 by omega] at d0 d1
              by_cases he : ds[m + 1 + (q + 1)].1 = ds[m + 1 + (q + 1) - 1].1
              · have HI' : Hid (Li.CInv Prod.fst ds k (m + 1 + (q + 1 + 1)) cur) := by have h := HI.out.skip hjd he; exact h
                rw [decide_eq_true he] at HC
                clear HI e1 e2 he HOc hbw hbt
                generalize ds[m + 1 + (q + 1) - 1] = y at *
                generalize ds[m + 1 + (q + 1)] = x at *
                obtain ⟨⟨xp, xk⟩, xv⟩ := x
                obtain ⟨⟨yp, yk⟩, yv⟩ := y
                simp only at ex ey c0 c1 d0 d1 HC
                subst ex
                subst ey
                go_wp2_with fail
                go_region_held3 (fun W => W.cell? ⟨g, (m + 1) * 2 + (q + 1) * 2, none⟩ = some (.slice xa xn xc) ∧ W.cell? ⟨g, (m + 1) * 2 + (q + 1) * 2 + 1, none⟩ = some (.int .i64 xk) ∧ W.cell? ⟨g, (m + 1) * 2 + q * 2, none⟩ = some (.slice ya yn yc) ∧ W.cell? ⟨g, (m + 1) * 2 + q * 2 + 1, none⟩ = some (.int .i64 yk) ∧ Below wr.heap.size wr W)
                  (first | exact ⟨c0, c1, d0, d1, Below.refl _ _⟩ | exact (L2.drew (x := ((xp, xk), .slice xa xn xc)) (y := ((yp, yk), .slice ya yn yc)) ⟨c0, c1, d0, d1, Below.refl _ _⟩).parts | exact ((L2.drew (x := ((xp, xk), .slice xa xn xc)) (y := ((yp, yk), .slice ya yn yc)) ⟨c0, c1, d0, d1, Below.refl _ _⟩).on hb1).parts)
                  (first | (go_at_call 76; refine (HC _ (Below.refl _ wr).drew).mono ?_; rintro e w1 ⟨rfl, hb1⟩))
                have hbx : Below wr.heap.size wr w1 := bchain (Below.refl _ wr).drew hb1
                obtain ⟨hO1, hbw1, hbt1⟩ := HOn.out w1 hbx
                have HO1 : Hid (OwnR w1 g lcell 2 cur) := hO1
                clear c0 c1 d0 d1 HC hO1 HOn hb1 hbx hj0 hj1 hj2 hj3 hj4 hj5 hj6 hj7 hjw
                go_wp2
                go_roundw
                case rel => exact ⟨k, q + 1, cur, rfl, by go_num, by omega, HI', HO1, hbw1, hbt1⟩
                case measure => simp [intOf]; omega
              · have HI' : Hid (Li.CInv Prod.fst ds (k + 1) (m + 1 + (q + 1 + 1)) (cur.set k ds[m + 1 + (q + 1)])) := by have h := HI.out.keep hjd he; exact h
                have HF' : Hid (∀ w2, OwnR w2 g lcell 2 cur → OwnR (w2.setCells g (k * 2) (lcell ds[m + 1 + (q + 1)])) g lcell 2 (cur.set k ds[m + 1 + (q + 1)])) := by
                  have h := fun w2 (h2 : OwnR w2 g lcell 2 cur) => h2.set lcell_len hkc ds[m + 1 + (q + 1)]
                  exact h
                rw [decide_eq_false he] at HC
                clear HI e1 e2 he HOc hbw hbt
                generalize cur.set k ds[m + 1 + (q + 1)] = cur' at *
                generalize ds[m + 1 + (q + 1) - 1] = y at *
                generalize ds[m + 1 + (q + 1)] = x at *
                obtain ⟨⟨xp, xk⟩, xv⟩ := x
                obtain ⟨⟨yp, yk⟩, yv⟩ := y
                simp only at ex ey c0 c1 d0 d1 HC
                subst ex
                subst ey
                go_wp2_with fail
                go_region_held3 (fun W => W.cell? ⟨g, (m + 1) * 2 + (q + 1) * 2, none⟩ = some (.slice xa xn xc) ∧ W.cell? ⟨g, (m + 1) * 2 + (q + 1) * 2 + 1, none⟩ = some (.int .i64 xk) ∧ W.cell? ⟨g, (m + 1) * 2 + q * 2, none⟩ = some (.slice ya yn yc) ∧ W.cell? ⟨g, (m + 1) * 2 + q * 2 + 1, none⟩ = some (.int .i64 yk) ∧ Below wr.heap.size wr W)
                  (first | exact ⟨c0, c1, d0, d1, Below.refl _ _⟩ | exact (L2.drew (x := ((xp, xk), .slice xa xn xc)) (y := ((yp, yk), .slice ya yn yc)) ⟨c0, c1, d0, d1, Below.refl _ _⟩).parts | exact ((L2.drew (x := ((xp, xk), .slice xa xn xc)) (y := ((yp, yk), .slice ya yn yc)) ⟨c0, c1, d0, d1, Below.refl _ _⟩).on hb1).parts)
                  (first | (go_at_call 76; refine (HC _ (Below.refl _ wr).drew).mono ?_; rintro e w1 ⟨rfl, hb1⟩))
                have hbx : Below wr.heap.size wr w1 := bchain (Below.refl _ wr).drew hb1
                obtain ⟨hO1, hbw1, hbt1⟩ := HOn.out w1 hbx
                have HO1 : Hid (OwnR w1 g lcell 2 cur) := hO1
                have hth := (hO1.2 k hkc).2
                have f0 := keep_cell hbx c0
                have f1 := keep_cell hbx c1
                clear c0 c1 d0 d1 HC HOn hb1 hbx hO1
                go_wp2_with (first | (refine store_row rfl 85 _ _ rfl g (k * 2) (lcell ((xp, xk), .slice xa xn xc)) rfl rfl (by show World.there _ _ _ 2; exact hth) (lsize77 rfl) (lcell_one ⟨_, _, _, rfl⟩) ?_) | go_in)
                have hx : ((m : Int) + 1 < (n : Int)) := by omega
                (try push_cast)
                (try simp only [hx, decide_true])
                go_roundw
                case rel => exact ⟨k + 1, q + 1, cur', by go_num, by go_num, by omega, HI', HF'.out _ HO1.out, below_setCells HB.out (lcell ((xp, xk), .slice xa xn xc)) (k * 2) _ hbw1, but_setCells (lcell ((xp, xk), .slice xa xn xc)) (k * 2) _ hbt1⟩
                case measure => simp [intOf]; omega
            · have hjn : n = m + 1 + (q + 1) := by omega
              have hkl : k < n := by omega
              have hcl9 := lclears HOc.out k n hkl hcl
              have HE : Hid (k = (Li.ddK Prod.fst ds n).length ∧ cur.take k = Li.ddK Prod.fst ds n) := by
                have h1 := HI.out.len
                have h2 := HI.out.2.2.2.2.1
                rw [← hjn] at h1 h2
                exact (⟨h1, h2⟩ : k = (Li.ddK Prod.fst ds n).length ∧ cur.take k = Li.ddK Prod.fst ds n)
              have hin : k ≤ cap := by omega
              have hqn : ¬ ((q : Int) + 1 < (n : Int) - ((m : Int) + 1)) := by omega
              clear hjn
              generalize (Builtin.zeroCells lzero (n - k)).toList = vs at *
              go_wp2
              go_ret
              refine ⟨by rw [← HE.out.1]; rfl, ?_, below_setCells HB.out vs (k * 2) _ hbw, but_setCells vs (k * 2) _ hbt⟩
              rw [← HE.out.2]
              exact HOc.out.clear lcell_len k vs
        · have HR' : Hid (Li.fresh Prod.fst ds (m + 1 + 1)) := by have h := Li.fresh_step HR.out h1 (by simpa using he); exact h
          rw [decide_eq_false he] at HC
          clear HR he HOr hbw hbt
          generalize ds[m] = y at *
          generalize ds[m + 1] = x at *
          obtain ⟨⟨xp, xk⟩, xv⟩ := x
          obtain ⟨⟨yp, yk⟩, yv⟩ := y
          simp only at ex ey c0 c1 d0 d1 HC
          subst ex
          subst ey
          go_wp2_with fail
          go_region_held3 (fun W => W.cell? ⟨g, (m + 1) * 2, none⟩ = some (.slice xa xn xc) ∧ W.cell? ⟨g, (m + 1) * 2 + 1, none⟩ = some (.int .i64 xk) ∧ W.cell? ⟨g, m * 2, none⟩ = some (.slice ya yn yc) ∧ W.cell? ⟨g, m * 2 + 1, none⟩ = some (.int .i64 yk) ∧ Below wr.heap.size wr W)
            (first | exact ⟨c0, c1, d0, d1, Below.refl _ _⟩ | exact (L2.drew (x := ((xp, xk), .slice xa xn xc)) (y := ((yp, yk), .slice ya yn yc)) ⟨c0, c1, d0, d1, Below.refl _ _⟩).parts | exact ((L2.drew (x := ((xp, xk), .slice xa xn xc)) (y := ((yp, yk), .slice ya yn yc)) ⟨c0, c1, d0, d1, Below.refl _ _⟩).on hb1).parts)
            (first | (go_at_call 76; refine (HC _ (Below.refl _ wr).drew).mono ?_; rintro e w1 ⟨rfl, hb1⟩))
          have hbx : Below wr.heap.size wr w1 := bchain (Below.refl _ wr).drew hb1
          obtain ⟨hO1, hbw1, hbt1⟩ := HOn.out w1 hbx
          have HO1 : Hid (OwnR w1 g lcell 2 ds) := hO1
          clear c0 c1 d0 d1 HC hO1 HOn hb1 hbx hi0 hi1 hi2 hi3 hiw
          go_wp2
          go_roundw
          case rel => exact ⟨m + 1, by go_num, by omega, HR', HO1, hbw1, hbt1⟩
          case measure => simp [intOf]; omega
      · obtain rfl : n = m + 1 := by omega
        have HE : Hid (Li.ddK Prod.fst ds (m + 1) = ds ∧ m + 1 = ds.length) := by
          have h : Li.ddK Prod.fst ds (m + 1) = ds ∧ m + 1 = ds.length := ⟨by rw [HR.out, HN.out, List.take_length], HN.out⟩
          exact h
        go_wp2
        go_ret
        refine ⟨by rw [HE.out.1, ← HE.out.2]; rfl, by rw [HE.out.1]; exact HOr.out, hbw, hbt⟩
end Go.Proofs.YthlhopdlkkeohaaGreatDoor.O
/- Small laws on worlds that all texts of this seat share. -/
namespace Go.Proofs.YthlhopdlkkeohaaGreatDoor
open Go.RowKit
theorem bchain {a b c : World} (h : Below a.heap.size a b) (k : Below b.heap.size b c) : Below a.heap.size a c := h.trans (k.mono h.size)
theorem below_new2 (w : World) (o p : Obj) : Below w.heap.size w ((w.alloc o).alloc p) := bchain (below_new w o) (below_new _ p)
theorem below_new3 (w : World) (o p q : Obj) : Below w.heap.size w (((w.alloc o).alloc p).alloc q) := bchain (below_new2 w o p) (below_new _ q)
/-- What a cell holds, it holds behind a call that leaves all that was there. -/
theorem keep_cell {W w1 : World} {a : Addr} {v : Value} (hb : Below W.heap.size W w1) (h : W.cell? a = some v) : w1.cell? a = some v := (hb.cell (World.block_lt_of_cell? W a h)).trans h
theorem cat_lists (a b : List UInt8) : (⟨a.toArray⟩ : ByteArray) ++ ⟨b.toArray⟩ = ⟨(a ++ b).toArray⟩ := by apply ByteArray.ext; simp
theorem add_lists {x y : List UInt8} (h : ¬ 9223372036854775807 < x.length + y.length) (w : World) : (binOp .add 9 (.string ⟨x.toArray⟩) (.string ⟨y.toArray⟩)).run Tryz.prog w = .ok (.string ⟨(x ++ y).toArray⟩) w := by
  go_simp
  rw [cat_lists]
end Go.Proofs.YthlhopdlkkeohaaGreatDoor
/- The walks of the dot's own functions, and of the document's: is it right, how two stand. -/
namespace Go.Proofs.YthlhopdlkkeohaaGreatDoor.D
open Go.RowKit

/-- A dot, an operation, as the program holds them. -/
abbrev dotV (r n : Int) : Value := .agg #[.int .i64 r, .int .i64 n]
abbrev refV (r n i : Int) : Value := .agg #[.int .i64 r, .int .i64 n, .int .i64 i]

theorem refRight_any (r n : Int) (w : World) : Calls Tryz.prog 102 #[dotV r n] w fun e w' => e = .returned (.bool (Dt.right r n)) ∧ Below w.heap.size w w' := by
  by_cases h0 : 0 ≤ r
  rotate_left
  · rw [show Dt.right r n = false by rw [Bool.eq_false_iff]; intro h; rw [Dt.right_iff] at h; omega]
    have hd : decide (0 ≤ r) = false := decide_eq_false h0
    go_enter Tryz.func102, Tryz.ntmps102
    go_wp2
    go_ret
    exact ⟨rfl, below_new _ _⟩
  by_cases h1 : r ≤ 15
  rotate_left
  · rw [show Dt.right r n = false by rw [Bool.eq_false_iff]; intro h; rw [Dt.right_iff] at h; omega]
    have hd : decide (r ≤ 15) = false := decide_eq_false h1
    go_enter Tryz.func102, Tryz.ntmps102
    go_wp2
    go_ret
    exact ⟨rfl, below_new _ _⟩
  by_cases h2 : 1 ≤ n
  rotate_left
  · rw [show Dt.right r n = false by rw [Bool.eq_false_iff]; intro h; rw [Dt.right_iff] at h; omega]
    have hd : decide (1 ≤ n) = false := decide_eq_false h2
    go_enter Tryz.func102, Tryz.ntmps102
    go_wp2
    go_ret
    exact ⟨rfl, below_new _ _⟩
  by_cases h3 : n ≤ 1048576
  rotate_left
  · rw [show Dt.right r n = false by rw [Bool.eq_false_iff]; intro h; rw [Dt.right_iff] at h; omega]
    have hd : decide (n ≤ 1048576) = false := decide_eq_false h3
    go_enter Tryz.func102, Tryz.ntmps102
    go_wp2
    go_ret
    exact ⟨rfl, below_new _ _⟩
  rw [show Dt.right r n = true by rw [Dt.right_iff]; omega]
  go_enter Tryz.func102, Tryz.ntmps102
  go_wp2
  go_ret
  exact ⟨rfl, below_new _ _⟩

theorem ints_any (x y : Int) (w : World) : Calls Tryz.prog 134 #[.int .i64 x, .int .i64 y] w fun e w' => e = .returned (.int .i64 (Dt.compareInt x y)) ∧ w' = w := by
  rcases Dt.compareInt_cases x y with ⟨h, e⟩ | ⟨h, e⟩ | ⟨h, e⟩ <;> rw [e]
  · go_enter Tryz.func134, Tryz.ntmps134
    go_wp2
    go_ret
    exact ⟨rfl, rfl⟩
  · subst h
    go_enter Tryz.func134, Tryz.ntmps134
    go_wp2
    go_ret
    exact ⟨rfl, rfl⟩
  · have h' : ¬ x < y := by omega
    go_enter Tryz.func134, Tryz.ntmps134
    go_wp2
    go_ret
    exact ⟨rfl, rfl⟩

theorem refComp_any (r n r' n' : Int) (w : World) : Calls Tryz.prog 100 #[dotV r n, dotV r' n'] w fun e w' => e = .returned (.int .i64 (Dt.comp r n r' n')) ∧ Below w.heap.size w w' := by
  by_cases h : r = r'
  · subst h
    rw [show Dt.comp r n r n' = Dt.compareInt n n' by unfold Dt.comp Dt.two; rw [if_pos (Dt.compareInt_zero.2 rfl)]]
    go_enter Tryz.func100, Tryz.ntmps100
    go_wp2_with (go_at_call 134; refine (ints_any _ _ _).mono ?_; rintro e w1 ⟨rfl, rfl⟩)
    go_ret
    exact ⟨rfl, below_new2 _ _ _⟩
  · rw [show Dt.comp r n r' n' = Dt.compareInt r r' by unfold Dt.comp Dt.two; rw [if_neg (fun e => h (Dt.compareInt_zero.1 e))]]
    have hb : (r != r') = true := by simpa using h
    go_enter Tryz.func100, Tryz.ntmps100
    go_wp2_with (go_at_call 134; refine (ints_any _ _ _).mono ?_; rintro e w1 ⟨rfl, rfl⟩)
    go_ret
    exact ⟨rfl, below_new2 _ _ _⟩

end Go.Proofs.YthlhopdlkkeohaaGreatDoor.D
