/- What counts as plain mathematics (for stage 13): which operations a transaction that counts covers, the items, those at a path and under it, one transaction more · Items in memory: a slice of them, one in a variable; the cells of transactions and items, each as a row of its own. -/
import Derived.Test.YthlhopdlkkeohaaGreatDoorTxnsAll
import Derived.Test.YthlhopdlkkeohaaGreatDoorRws
/- What counts as plain mathematics (for stage 13): which operations a transaction that counts covers, the items, those at a path and under it, one transaction more. -/
namespace Go.Proofs.YthlhopdlkkeohaaGreatDoor
namespace Lv

/-- An item: which operation, it, and its transaction's time. -/
structure Item where
  x : U
  o : Os.Op
  t : Int
/-- Does one of the operations name it? -/
def names (os : List Os.Op) (x : U) : Bool := os.any fun o => decide (x ∈ o.l)
/-- Does a transaction that counts ('sn') cover it? -/
def covered (l : List Tx.Txn) (sn : D → Bool) (x : U) : Bool := l.any fun t => sn t.d && names t.ops x
/-- A kind that can be an item's. -/
def able (k : Int) : Bool := decide (1 ≤ k ∧ k ≤ 3)
/-- The items of a transaction that counts, from place k on. -/
def items (cov : U → Bool) (d : D) (tm : Int) : Nat → List Os.Op → List Item
  | _, [] => []
  | k, o :: r => if able o.k = true ∧ cov (d, (k : Int)) = false then ⟨(d, (k : Int)), o, tm⟩ :: items cov d tm (k + 1) r else items cov d tm (k + 1) r
/-- Those of one transaction. -/
def itemsOf (cov : U → Bool) (sn : D → Bool) (t : Tx.Txn) : List Item := if sn t.d = true then items cov t.d t.t 0 t.ops else []
def allBy (cov : U → Bool) (sn : D → Bool) (l : List Tx.Txn) : List Item := l.flatMap (itemsOf cov sn)
def all (l : List Tx.Txn) (sn : D → Bool) : List Item := allBy (covered l sn) sn l
def atLeaf (l : List Item) (p : List (List UInt8)) (leaf : Int) : List Item := l.filter fun i => decide (Os.leaf i.o.k = leaf ∧ i.o.p = p)
def refs (l : List Item) : List U := l.map (·.x)
def withT (l : List Tx.Txn) (t : Tx.Txn) : List Tx.Txn := if t.ops = [] then l else Tx.put l t

/-! ### How they grow, place by place -/
theorem items_append (cov : U → Bool) (d : D) (tm : Int) : ∀ (a b : List Os.Op) (k : Nat), items cov d tm k (a ++ b) = items cov d tm k a ++ items cov d tm (k + a.length) b
  | [], b, k => by simp [items]
  | o :: r, b, k => by
    rw [List.cons_append, items, items, items_append cov d tm r b (k + 1), List.length_cons, show k + (r.length + 1) = k + 1 + r.length by omega]
    split <;> simp
theorem items_step (cov : U → Bool) (d : D) (tm : Int) (os : List Os.Op) {k : Nat} (h : k < os.length) :
    items cov d tm 0 (os.take (k + 1)) = items cov d tm 0 (os.take k) ++ (if able os[k].k = true ∧ cov (d, (k : Int)) = false then [⟨(d, (k : Int)), os[k], tm⟩] else []) := by
  rw [List.take_succ_eq_append_getElem h, items_append, List.length_take, Nat.min_eq_left (Nat.le_of_lt h), Nat.zero_add]
  congr 1
theorem allBy_step (cov : U → Bool) (sn : D → Bool) (l : List Tx.Txn) {k : Nat} (h : k < l.length) : allBy cov sn (l.take (k + 1)) = allBy cov sn (l.take k) ++ itemsOf cov sn l[k] := by
  unfold allBy
  rw [List.take_succ_eq_append_getElem h, List.flatMap_append, List.flatMap_cons, List.flatMap_nil, List.append_nil]
theorem items_len (cov : U → Bool) (d : D) (tm : Int) : ∀ (os : List Os.Op) (k : Nat), (items cov d tm k os).length ≤ os.length
  | [], _ => by simp [items]
  | o :: r, k => by
    have := items_len cov d tm r (k + 1)
    rw [items]
    split
    · simp only [List.length_cons]; omega
    · simp only [List.length_cons]; omega
theorem itemsOf_len (cov : U → Bool) (sn : D → Bool) (t : Tx.Txn) : (itemsOf cov sn t).length ≤ t.ops.length := by
  unfold itemsOf
  split
  · exact items_len _ _ _ _ _
  · simp
theorem allBy_len {cov : U → Bool} {sn : D → Bool} {B : Nat} : ∀ {l : List Tx.Txn}, (∀ t ∈ l, t.ops.length ≤ B) → (allBy cov sn l).length ≤ l.length * B
  | [], _ => by simp [allBy]
  | t :: r, h => by
    have h1 := allBy_len (cov := cov) (sn := sn) (l := r) fun x hx => h x (by simp [hx])
    have h2 := itemsOf_len cov sn t
    have h3 := h t (by simp)
    have e : allBy cov sn (t :: r) = itemsOf cov sn t ++ allBy cov sn r := by simp [allBy]
    rw [e, List.length_append, List.length_cons, Nat.succ_mul]
    omega

/-! ### Who is one -/
theorem items_cons (cov : U → Bool) (d : D) (tm : Int) (k : Nat) (o : Os.Op) (r : List Os.Op) :
    items cov d tm k (o :: r) = if able o.k = true ∧ cov (d, (k : Int)) = false then ⟨(d, (k : Int)), o, tm⟩ :: items cov d tm (k + 1) r else items cov d tm (k + 1) r := by rw [items]
theorem mem_items {cov : U → Bool} {d : D} {tm : Int} {i : Item} : ∀ {os : List Os.Op} {k : Nat}, i ∈ items cov d tm k os ↔ ∃ j, ∃ h : j < os.length, able os[j].k = true ∧ cov (d, ((k + j : Nat) : Int)) = false ∧ i = ⟨(d, ((k + j : Nat) : Int)), os[j], tm⟩
  | [], k => by simp [items]
  | o :: r, k => by
    have ih := mem_items (cov := cov) (d := d) (tm := tm) (i := i) (os := r) (k := k + 1)
    have tail : (∃ j, ∃ h : j < r.length, able r[j].k = true ∧ cov (d, ((k + 1 + j : Nat) : Int)) = false ∧ i = ⟨(d, ((k + 1 + j : Nat) : Int)), r[j], tm⟩) ↔ ∃ j, ∃ h : j + 1 < (o :: r).length, able (o :: r)[j + 1].k = true ∧ cov (d, ((k + (j + 1) : Nat) : Int)) = false ∧ i = ⟨(d, ((k + (j + 1) : Nat) : Int)), (o :: r)[j + 1], tm⟩ := by
      constructor
      · rintro ⟨j, h, a, b, c⟩
        refine ⟨j, by simpa using h, by simpa using a, ?_, ?_⟩
        · rw [show k + (j + 1) = k + 1 + j by omega]; exact b
        · rw [show k + (j + 1) = k + 1 + j by omega]; simpa using c
      · rintro ⟨j, h, a, b, c⟩
        refine ⟨j, by simpa using h, by simpa using a, ?_, ?_⟩
        · rw [show k + 1 + j = k + (j + 1) by omega]; exact b
        · rw [show k + 1 + j = k + (j + 1) by omega]; simpa using c
    have split : (∃ j, ∃ h : j < (o :: r).length, able (o :: r)[j].k = true ∧ cov (d, ((k + j : Nat) : Int)) = false ∧ i = ⟨(d, ((k + j : Nat) : Int)), (o :: r)[j], tm⟩) ↔ (able o.k = true ∧ cov (d, (k : Int)) = false ∧ i = ⟨(d, (k : Int)), o, tm⟩) ∨ ∃ j, ∃ h : j + 1 < (o :: r).length, able (o :: r)[j + 1].k = true ∧ cov (d, ((k + (j + 1) : Nat) : Int)) = false ∧ i = ⟨(d, ((k + (j + 1) : Nat) : Int)), (o :: r)[j + 1], tm⟩ := by
      constructor
      · rintro ⟨j, h, a, b, c⟩
        cases j with
        | zero => exact .inl ⟨a, b, c⟩
        | succ j => exact .inr ⟨j, h, a, b, c⟩
      · rintro (⟨a, b, c⟩ | ⟨j, h, a, b, c⟩)
        · exact ⟨0, by simp, a, b, c⟩
        · exact ⟨j + 1, h, a, b, c⟩
    rw [split, ← tail, ← ih, items_cons]
    split
    · rename_i q
      rw [List.mem_cons]
      constructor
      · rintro (e | e)
        · exact .inl ⟨q.1, q.2, e⟩
        · exact .inr e
      · rintro (⟨_, _, e⟩ | e)
        · exact .inl e
        · exact .inr e
    · rename_i q
      constructor
      · intro e; exact .inr e
      · rintro (⟨a, b, _⟩ | e)
        · exact absurd ⟨a, b⟩ q
        · exact e
theorem mem_all {l : List Tx.Txn} {sn : D → Bool} {i : Item} : i ∈ all l sn ↔ ∃ t ∈ l, sn t.d = true ∧ ∃ j, ∃ h : j < t.ops.length, able t.ops[j].k = true ∧ covered l sn (t.d, (j : Int)) = false ∧ i = ⟨(t.d, (j : Int)), t.ops[j], t.t⟩ := by
  unfold all allBy
  rw [List.mem_flatMap]
  constructor
  · rintro ⟨t, ht, hi⟩
    unfold itemsOf at hi
    split at hi
    · rename_i hs
      obtain ⟨j, h, a, b, c⟩ := mem_items.1 hi
      rw [Nat.zero_add] at b c
      exact ⟨t, ht, hs, j, h, a, b, c⟩
    · simp at hi
  · rintro ⟨t, ht, hs, j, h, a, b, c⟩
    refine ⟨t, ht, ?_⟩
    unfold itemsOf
    rw [if_pos hs]
    exact mem_items.2 ⟨j, h, a, by rw [Nat.zero_add]; exact b, by rw [Nat.zero_add]; exact c⟩

/-! ### What follows -/
theorem allBy_without (cov : U → Bool) {sn : D → Bool} {d : D} (h : sn d = false) : ∀ l : List Tx.Txn, allBy cov sn (l.filter fun t => decide (t.d ≠ d)) = allBy cov sn l
  | [] => rfl
  | t :: r => by
    have ih := allBy_without cov h r
    have e : ∀ q : List Tx.Txn, allBy cov sn (t :: q) = itemsOf cov sn t ++ allBy cov sn q := fun q => by simp [allBy]
    by_cases ht : t.d = d
    · rw [List.filter_cons_of_neg (by simp [ht]), ih, e]
      unfold itemsOf
      rw [ht, h, if_neg (by simp), List.nil_append]
    · rw [List.filter_cons_of_pos (by simp [ht]), e, e, ih]
/-- What counts alike is the same. -/
theorem all_alike (l : List Tx.Txn) {sn sn' : D → Bool} (h : ∀ d, sn d = sn' d) : all l sn = all l sn' := by rw [funext h]
/-- What nobody who counts covers is one, if it can be. -/
theorem again {l : List Tx.Txn} {sn : D → Bool} {t : Tx.Txn} (ht : t ∈ l) (hs : sn t.d = true) {j : Nat} (hj : j < t.ops.length) (hk : able t.ops[j].k = true) (hc : covered l sn (t.d, (j : Int)) = false) : (t.d, (j : Int)) ∈ refs (all l sn) :=
  List.mem_map.2 ⟨⟨(t.d, (j : Int)), t.ops[j], t.t⟩, mem_all.2 ⟨t, ht, hs, j, hj, hk, hc, rfl⟩, rfl⟩

/-! ### One transaction more, that covers nothing -/
theorem names_none {os : List Os.Op} (h : ∀ o ∈ os, o.l = []) (x : U) : names os x = false := by
  cases e : names os x with
  | false => rfl
  | true =>
    obtain ⟨o, ho, q⟩ := List.any_eq_true.1 e
    rw [h o ho] at q
    simp at q
theorem items_dot {cov : U → Bool} {d : D} {tm : Int} {os : List Os.Op} {k : Nat} : ∀ i ∈ items cov d tm k os, i.x.1 = d := fun i hi => by
  obtain ⟨j, _, _, _, rfl⟩ := mem_items.1 hi
  rfl
theorem itemsOf_dot {cov : U → Bool} {sn : D → Bool} {t : Tx.Txn} : ∀ i ∈ itemsOf cov sn t, i.x.1 = t.d := fun i hi => by
  unfold itemsOf at hi
  split at hi
  · exact items_dot i hi
  · simp at hi
theorem filter_itemsOf {cov : U → Bool} {sn : D → Bool} {t : Tx.Txn} {d : D} (h : t.d ≠ d) : (itemsOf cov sn t).filter (fun i => decide (i.x.1 ≠ d)) = itemsOf cov sn t :=
  List.filter_eq_self.2 fun i hi => decide_eq_true (by rw [itemsOf_dot i hi]; exact h)
theorem filter_allBy {cov : U → Bool} {sn : D → Bool} {d : D} : ∀ {l : List Tx.Txn}, (∀ y ∈ l, y.d ≠ d) → (allBy cov sn l).filter (fun i => decide (i.x.1 ≠ d)) = allBy cov sn l
  | [], _ => rfl
  | t :: r, h => by
    have e : allBy cov sn (t :: r) = itemsOf cov sn t ++ allBy cov sn r := by simp [allBy]
    rw [e, List.filter_append, filter_itemsOf (h t (by simp)), filter_allBy fun y hy => h y (by simp [hy])]
theorem filter_put {cov : U → Bool} {sn : D → Bool} {t : Tx.Txn} : ∀ {l : List Tx.Txn}, (∀ y ∈ l, y.d ≠ t.d) → (allBy cov sn (Tx.put l t)).filter (fun i => decide (i.x.1 ≠ t.d)) = allBy cov sn l
  | [], _ => by
    have e : allBy cov sn [t] = itemsOf cov sn t := by simp [allBy]
    show (allBy cov sn [t]).filter _ = []
    rw [e]
    exact List.filter_eq_nil_iff.2 fun i hi => by simp [itemsOf_dot i hi]
  | y :: r, h => by
    have e : ∀ (z : Tx.Txn) (q : List Tx.Txn), allBy cov sn (z :: q) = itemsOf cov sn z ++ allBy cov sn q := fun z q => by simp [allBy]
    have hy := h y (by simp)
    unfold Tx.put
    rw [if_neg fun q => hy q.symm]
    split
    · rw [e t, List.filter_append, filter_allBy h]
      rw [List.filter_eq_nil_iff.2 fun i hi => by simp [itemsOf_dot i hi], List.nil_append]
    · rw [e y, e y, List.filter_append, filter_itemsOf hy, filter_put fun z hz => h z (by simp [hz])]
end Lv
end Go.Proofs.YthlhopdlkkeohaaGreatDoor
/- Items in memory: a slice of them, one in a variable; the cells of transactions and items, each as a row of its own. -/
namespace Go.Proofs.YthlhopdlkkeohaaGreatDoor.O
open Go.RowKit

/-- An item, its operation's slices written out. -/
abbrev IE := Lv.Item × Value × Value
def icell (x : IE) : List Value :=
  [.int .i64 x.1.x.1.1, .int .i64 x.1.x.1.2, .int .i64 x.1.x.2, .int .i64 x.1.o.k, x.2.1, .int .i64 x.1.o.vk, .int .i64 x.1.o.vn, .string ⟨x.1.o.vs.toArray⟩, .int .i64 x.1.o.n, x.2.2, .int .i64 x.1.t]
theorem icell_len (x : IE) : (icell x).length = 11 := rfl
theorem tcell_len (x : TE) : (tcell x).length = 6 := rfl
/-- Its operation's slices read as they should. -/
def IOk (w : World) (x : IE) : Prop := U.strsAt w x.2.1 x.1.o.p ∧ refsIn w x.2.2 x.1.o.l
theorem IOk.on {w w' : World} {x : IE} (h : IOk w x) (hb : Below w.heap.size w w') : IOk w' x := ⟨U.strsAt_below h.1 hb (Nat.le_refl _), h.2.on hb⟩
/-- A slice reads as these items. -/
def itsE (w : World) (v : Value) (xs : List IE) : Prop := rowsIn w icell v xs ∧ ∀ x ∈ xs, IOk w x
theorem itsE.on {w w' : World} {v : Value} {xs : List IE} (h : itsE w v xs) (hb : Below w.heap.size w w') : itsE w' v xs := ⟨h.1.on hb, fun x hx => (h.2 x hx).on hb⟩
theorem itsE.slice {w : World} {v : Value} {xs : List IE} (h : itsE w v xs) : ∃ ao cap, v = .slice ao xs.length cap := by
  obtain ⟨⟨ao, cap, e, _⟩, _⟩ := h
  exact ⟨ao, cap, e⟩
theorem icell_one {w : World} {x : IE} (h : IOk w x) : ∀ u ∈ icell x, u.oneCell' = true := by
  obtain ⟨a1, n1, c1, e1⟩ := strs_slice h.1
  obtain ⟨a2, n2, c2, e2⟩ := refs_slice h.2
  intro u hu
  simp only [icell, List.mem_cons, List.not_mem_nil, or_false] at hu
  rcases hu with rfl | rfl | rfl | rfl | rfl | rfl | rfl | rfl | rfl | rfl | rfl
  any_goals rfl
  · rw [e1]; rfl
  · rw [e2]; rfl
theorem tcell_one {w : World} {x : TE} (h : opsIn w x.2 x.1.ops) : ∀ u ∈ tcell x, u.oneCell' = true := by
  obtain ⟨ao, cap, e⟩ := h.slice
  intro u hu
  simp only [tcell, List.mem_cons, List.not_mem_nil, or_false] at hu
  rcases hu with rfl | rfl | rfl | rfl | rfl | rfl
  any_goals rfl
  rw [e]; rfl
theorem txsE_rows {w : World} {v : Value} {xs : List TE} : txsE w v xs ↔ rowsIn w tcell v xs ∧ ∀ x ∈ xs, opsIn w x.2 x.1.ops := by
  constructor
  · rintro ⟨ao, cap, h1, h2, h3, h4, h5⟩
    exact ⟨⟨ao, cap, h1, h2, h3, h4⟩, h5⟩
  · rintro ⟨⟨ao, cap, h1, h2, h3, h4⟩, h5⟩
    exact ⟨ao, cap, h1, h2, h3, h4, h5⟩
/-- At this place there is this item. -/
structure IcAt (w : World) (p : Addr) (x : IE) : Prop where
  c0 : w.cell? p = some (.int .i64 x.1.x.1.1)
  c1 : w.cell? ⟨p.block, p.off + 1, none⟩ = some (.int .i64 x.1.x.1.2)
  c2 : w.cell? ⟨p.block, p.off + 2, none⟩ = some (.int .i64 x.1.x.2)
  c3 : w.cell? ⟨p.block, p.off + 3, none⟩ = some (.int .i64 x.1.o.k)
  c4 : w.cell? ⟨p.block, p.off + 4, none⟩ = some x.2.1
  c5 : w.cell? ⟨p.block, p.off + 5, none⟩ = some (.int .i64 x.1.o.vk)
  c6 : w.cell? ⟨p.block, p.off + 6, none⟩ = some (.int .i64 x.1.o.vn)
  c7 : w.cell? ⟨p.block, p.off + 7, none⟩ = some (.string ⟨x.1.o.vs.toArray⟩)
  c8 : w.cell? ⟨p.block, p.off + 8, none⟩ = some (.int .i64 x.1.o.n)
  c9 : w.cell? ⟨p.block, p.off + 9, none⟩ = some x.2.2
  c10 : w.cell? ⟨p.block, p.off + 10, none⟩ = some (.int .i64 x.1.t)
theorem IcAt.of {w : World} {p : Addr} {x : IE} (h : ∀ j u, (icell x)[j]? = some u → w.cell? (p.add j) = some u) : IcAt w p x := by
  have e : ∀ i, 0 < i → p.add i = ⟨p.block, p.off + i, none⟩ := fun i hi => by unfold Addr.add; rw [if_neg (by omega)]
  have e0 : p.add 0 = p := by unfold Addr.add; simp
  refine ⟨by rw [← e0]; exact h 0 _ rfl, ?_, ?_, ?_, ?_, ?_, ?_, ?_, ?_, ?_, ?_⟩
  · rw [← e 1 (by omega)]; exact h 1 _ rfl
  · rw [← e 2 (by omega)]; exact h 2 _ rfl
  · rw [← e 3 (by omega)]; exact h 3 _ rfl
  · rw [← e 4 (by omega)]; exact h 4 _ rfl
  · rw [← e 5 (by omega)]; exact h 5 _ rfl
  · rw [← e 6 (by omega)]; exact h 6 _ rfl
  · rw [← e 7 (by omega)]; exact h 7 _ rfl
  · rw [← e 8 (by omega)]; exact h 8 _ rfl
  · rw [← e 9 (by omega)]; exact h 9 _ rfl
  · rw [← e 10 (by omega)]; exact h 10 _ rfl
theorem IcAt.on {w w' : World} {p : Addr} {x : IE} (h : IcAt w p x) (hb : Below w.heap.size w w') : IcAt w' p x :=
  ⟨keep_cell hb h.c0, keep_cell hb h.c1, keep_cell hb h.c2, keep_cell hb h.c3, keep_cell hb h.c4, keep_cell hb h.c5, keep_cell hb h.c6, keep_cell hb h.c7, keep_cell hb h.c8, keep_cell hb h.c9, keep_cell hb h.c10⟩
theorem IcAt.new (w : World) (x : IE) (T : TypeId) : IcAt (w.alloc (.cells (icell x).toArray T)) ⟨w.heap.size, 0, none⟩ x := IcAt.of (new_cells w (icell x) T)
/-- The item at a place. -/
theorem itsE.get {w : World} {ao : Option Addr} {n cap : Nat} {xs : List IE} (h : itsE w (.slice ao n cap) xs) {k : Nat} (hk : k < xs.length) :
    ∃ ad, ao = some ad ∧ (∀ j u, (icell xs[k])[j]? = some u → w.cell? ((ad.add (k * 11)).add j) = some u) ∧ IcAt w (ad.add (k * 11)) xs[k] ∧ IOk w xs[k] := by
  obtain ⟨ad, e, h1⟩ := h.1.get icell_len (by omega) hk
  exact ⟨ad, e, h1, IcAt.of h1, h.2 _ (List.getElem_mem hk)⟩
theorem txsE.get {w : World} {ao : Option Addr} {n cap : Nat} {xs : List TE} (h : txsE w (.slice ao n cap) xs) {k : Nat} (hk : k < xs.length) :
    ∃ ad, ao = some ad ∧ (∀ j u, (tcell xs[k])[j]? = some u → w.cell? ((ad.add (k * 6)).add j) = some u) ∧ opsIn w xs[k].2 xs[k].1.ops := by
  have h := txsE_rows.1 h
  obtain ⟨ad, e, h1⟩ := h.1.get tcell_len (by omega) hk
  exact ⟨ad, e, h1, h.2 _ (List.getElem_mem hk)⟩
theorem tsize48 {cs : List Value} (h : cs.length = 6) : (Tryz.prog.info? 56).map (·.size) = some cs.length := by rw [h]; kernel_rfl
theorem isize56 {cs : List Value} (h : cs.length = 11) : (Tryz.prog.info? 76).map (·.size) = some cs.length := by rw [h]; kernel_rfl
theorem isize81 {cs : List Value} (h : cs.length = 11) : (Tryz.prog.info? 78).map (·.size) = some cs.length := by rw [h]; kernel_rfl
theorem iinfo56 : ∃ i0, Tryz.prog.info? 76 = some i0 ∧ i0.zero = some (.agg #[.int .i64 0, .int .i64 0, .int .i64 0, .int .i64 0, .slice none 0 0, .int .i64 0, .int .i64 0, .string ⟨#[]⟩, .int .i64 0, .slice none 0 0, .int .i64 0]) ∧ i0.size = 11 ∧ i0.bytes = 128 := info_parts (by kernel_rfl)
/-- A row of items that reads so. -/
theorem itsE_own {w : World} {B : Nat} {T : TypeId} {v : Value} {xs : List IE} (h : w.ownsRow B T 11 v xs.length (xs.flatMap icell)) (ho : ∀ x ∈ xs, IOk w x) : itsE w v xs := by
  refine ⟨?_, ho⟩
  rcases id h.2 with ⟨rfl, h0⟩ | ⟨g, cap, cur, rfl, r⟩
  · obtain rfl : xs = [] := List.eq_nil_of_length_eq_zero h0
    exact ⟨none, 0, rfl, Nat.le_refl _, fun _ => rfl, fun j u hu => by simp at hu⟩
  · exact ⟨_, cap, rfl, r.2.2.1, fun e => by simp at e, fun j u hu => ⟨_, rfl, h.cells rfl j u hu⟩⟩
end Go.Proofs.YthlhopdlkkeohaaGreatDoor.O
