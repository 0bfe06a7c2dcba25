/- Rows of things that take some cells each: how they read, how one that a call owns is written and cleared; and where a filter in place stands · What counts as plain mathematics (for stage 13): which operations a transaction that counts covers, the items, those at a path and under it, one transaction more. -/
import Derived.Test.YthlhopdlkkeohaaGreatDoorTxnOwnAll
import Derived.Deep.MidRow
import Derived.Laws.IdiomCopy
import Derived.Test.YthlhopdlkkeohaaGreatDoorOpMemAll
/- Rows of things that take some cells each: how they read, how one that a call owns is written and cleared; and where a filter in place stands. -/
namespace Go.Proofs.YthlhopdlkkeohaaGreatDoor.O
open Go.RowKit

section Lists
variable {α : Type}
theorem flat_length {f : α → List Value} {m : Nat} (hf : ∀ x, (f x).length = m) : ∀ l : List α, (l.flatMap f).length = l.length * m
  | [] => by simp
  | u :: l => by
    have := flat_length hf l
    rw [List.flatMap_cons, List.length_append, this, hf u, List.length_cons, Nat.succ_mul]
    omega
theorem flat_at {f : α → List Value} {m : Nat} (hf : ∀ x, (f x).length = m) : ∀ (l : List α) (k : Nat) (h : k < l.length) (i : Nat) (_ : i < m), (l.flatMap f)[k * m + i]? = (f l[k])[i]?
  | u :: l, 0, _, i, hi => by
    rw [List.flatMap_cons, List.getElem?_append_left (by rw [hf]; omega)]
    simp
  | u :: l, k + 1, h, i, hi => by
    have := flat_at hf l k (by simpa using h) i hi
    have e : (k + 1) * m + i = m + (k * m + i) := by rw [Nat.succ_mul]; omega
    rw [e, List.flatMap_cons, List.getElem?_append_right (by rw [hf]; omega), hf]
    simp only [List.getElem_cons_succ]
    rw [← this]
    congr 1
    omega
theorem flat_get {f : α → List Value} {m : Nat} (hf : ∀ x, (f x).length = m) (l : List α) (j : Nat) (u : Value) (h : (l.flatMap f)[j]? = some u) : ∃ k i, ∃ hk : k < l.length, i < m ∧ j = k * m + i ∧ (f l[k])[i]? = some u := by
  have hj : j < (l.flatMap f).length := (List.getElem?_eq_some_iff.1 h).1
  rw [flat_length hf] at hj
  have hm : 0 < m := by
    rcases Nat.eq_zero_or_pos m with e | e
    · rw [e] at hj; omega
    · exact e
  have hk : j / m < l.length := (Nat.div_lt_iff_lt_mul hm).2 hj
  have hi : j % m < m := Nat.mod_lt _ hm
  have he : j = j / m * m + j % m := by rw [Nat.mul_comm]; exact (Nat.div_add_mod j m).symm
  refine ⟨j / m, j % m, hk, hi, he, ?_⟩
  rw [← flat_at hf l (j / m) hk (j % m) hi, ← he, h]

/-! ### Where the first one stands that is taken; the filter in place -/
def idxF (p : α → Bool) (l : List α) : Int := match l.findIdx? p with
  | some k => (k : Int)
  | none => -1
def noneF (p : α → Bool) (l : List α) (k : Nat) : Prop := ∀ j (h : j < l.length), j < k → p l[j] = false
theorem noneF_zero (p : α → Bool) (l : List α) : noneF p l 0 := fun _ _ h => absurd h (Nat.not_lt_zero _)
theorem noneF_step {p : α → Bool} {l : List α} {k : Nat} (h : noneF p l k) (hk : k < l.length) (hp : p l[k] = false) : noneF p l (k + 1) := fun j hj h1 => by
  by_cases e : j = k
  · subst e; exact hp
  · exact h j hj (by omega)
theorem idxF_hit {p : α → Bool} {l : List α} {k : Nat} (h : noneF p l k) (hk : k < l.length) (hp : p l[k] = true) : idxF p l = k := by
  have : l.findIdx? p = some k := by
    rw [List.findIdx?_eq_some_iff_getElem]
    exact ⟨hk, hp, fun j hj => by simp [h j (by omega) hj]⟩
  simp [idxF, this]
theorem idxF_miss {p : α → Bool} {l : List α} (h : noneF p l l.length) : idxF p l = -1 := by
  have : l.findIdx? p = none := by
    rw [List.findIdx?_eq_none_iff]
    intro x hx
    obtain ⟨j, hj, rfl⟩ := List.mem_iff_getElem.1 hx
    exact h j hj hj
  simp [idxF, this]
theorem idxF_cases (p : α → Bool) (l : List α) : (idxF p l = -1 ∧ noneF p l l.length) ∨ ∃ k, k < l.length ∧ idxF p l = (k : Int) ∧ noneF p l k ∧ ∃ h : k < l.length, p l[k] = true := by
  unfold idxF
  cases h : l.findIdx? p with
  | none => left; exact ⟨rfl, fun j hj _ => by
      rw [List.findIdx?_eq_none_iff] at h
      exact h _ (List.getElem_mem hj)⟩
  | some k =>
    rw [List.findIdx?_eq_some_iff_getElem] at h
    obtain ⟨hk, hp, hn⟩ := h
    exact Or.inr ⟨k, hk, rfl, fun j hj h1 => by simpa using hn j h1, hk, hp⟩
theorem noneF_filter {p : α → Bool} {l : List α} (h : noneF (fun d => !p d) l l.length) : l.filter p = l := by
  rw [List.filter_eq_self]
  intro x hx
  obtain ⟨j, hj, rfl⟩ := List.mem_iff_getElem.1 hx
  simpa using h j hj hj
/-- Of the first j those that stay stand ahead, what is behind is as it was. -/
def KIn (p : α → Bool) (l : List α) (i j : Nat) (cur : List α) : Prop := cur.length = l.length ∧ i < j ∧ j ≤ l.length ∧ cur.take i = (l.take j).filter p ∧ cur.drop j = l.drop j
theorem KIn.start {p : α → Bool} {l : List α} {k : Nat} (h : noneF (fun d => !p d) l k) (hk : k < l.length) (hp : (!p l[k]) = true) : KIn p l k (k + 1) l := by
  refine ⟨rfl, by omega, by omega, ?_, rfl⟩
  rw [List.take_succ_eq_append_getElem hk, List.filter_append]
  have e1 : [l[k]].filter p = [] := by
    have : p l[k] = false := by simpa using hp
    simp [this]
  rw [e1, List.append_nil]
  symm
  rw [List.filter_eq_self]
  intro x hx
  obtain ⟨j, hj, rfl⟩ := List.mem_iff_getElem.1 hx
  simp at hj
  have := h j (by omega) (by omega)
  rw [List.getElem_take]
  simpa using this
theorem KIn.at {p : α → Bool} {l cur : List α} {i j : Nat} (h : KIn p l i j cur) (hj : j < l.length) : ∃ h' : j < cur.length, cur[j] = l[j] := by
  have h' : j < cur.length := by rw [h.1]; exact hj
  refine ⟨h', ?_⟩
  have e := h.2.2.2.2
  rw [List.drop_eq_getElem_cons h', List.drop_eq_getElem_cons hj] at e
  exact (List.cons.inj e).1
theorem KIn.keep {p : α → Bool} {l cur : List α} {i j : Nat} (h : KIn p l i j cur) (hj : j < l.length) (hp : p l[j] = true) : KIn p l (i + 1) (j + 1) (cur.set i l[j]) := by
  obtain ⟨h1, h2, h3, h4, h5⟩ := h
  refine ⟨by simpa using h1, by omega, by omega, ?_, ?_⟩
  · rw [List.take_succ_eq_append_getElem hj, List.filter_append, ← h4]
    rw [List.take_succ_eq_append_getElem (by simp; omega)]
    congr 1
    · rw [List.take_set_of_le (Nat.le_refl _)]
    · simp [hp]
  · rw [List.drop_set_of_lt (by omega)]
    have : cur.drop (j + 1) = (cur.drop j).drop 1 := by rw [List.drop_drop]
    rw [this, h5, List.drop_drop]
theorem KIn.skip {p : α → Bool} {l cur : List α} {i j : Nat} (h : KIn p l i j cur) (hj : j < l.length) (hp : p l[j] = false) : KIn p l i (j + 1) cur := by
  obtain ⟨h1, h2, h3, h4, h5⟩ := h
  refine ⟨h1, by omega, by omega, ?_, ?_⟩
  · rw [List.take_succ_eq_append_getElem hj, List.filter_append, ← h4]
    simp [hp]
  · have : cur.drop (j + 1) = (cur.drop j).drop 1 := by rw [List.drop_drop]
    rw [this, h5, List.drop_drop]
theorem KIn.len {p : α → Bool} {l cur : List α} {i j : Nat} (h : KIn p l i j cur) : i = ((l.take j).filter p).length := by
  rw [← h.2.2.2.1, List.length_take, h.1]
  have := h.2.1
  have := h.2.2.1
  omega
end Lists

/-! ### How a slice reads -/
section Rows
variable {α : Type} {f : α → List Value} {m : Nat}
def rowsIn (w : World) (f : α → List Value) (v : Value) (xs : List α) : Prop :=
  ∃ ao cap, v = .slice ao xs.length cap ∧ xs.length ≤ cap ∧ (ao = none → cap = 0) ∧ ∀ j u, (xs.flatMap f)[j]? = some u → ∃ ad, ao = some ad ∧ w.cell? (ad.add j) = some u
theorem rowsIn.on {w w' : World} {v : Value} {xs : List α} (h : rowsIn w f v xs) (hb : Below w.heap.size w w') : rowsIn w' f v xs := by
  obtain ⟨ao, cap, hv, hm, h0, hc⟩ := h
  refine ⟨ao, cap, hv, hm, h0, fun j u hu => ?_⟩
  obtain ⟨ad, h1, h2⟩ := hc j u hu
  exact ⟨ad, h1, keep_cell hb h2⟩
/-- The cells of one of them. -/
theorem rowsIn.get {w : World} {ao : Option Addr} {n cap : Nat} {xs : List α} (h : rowsIn w f (.slice ao n cap) xs) (hf : ∀ x, (f x).length = m) (hm : 0 < m) {k : Nat} (hk : k < xs.length) :
    ∃ ad, ao = some ad ∧ ∀ j u, (f xs[k])[j]? = some u → w.cell? ((ad.add (k * m)).add j) = some u := by
  obtain ⟨ao', c, e, _, _, hc⟩ := h
  cases e
  have h0 : 0 < (f xs[k]).length := by rw [hf]; exact hm
  obtain ⟨ad, rfl, _⟩ := hc (k * m + 0) _ ((flat_at hf xs k hk 0 hm).trans (List.getElem?_eq_getElem h0))
  refine ⟨ad, rfl, fun j u hu => ?_⟩
  have hj : j < m := by rw [← hf xs[k]]; exact (List.getElem?_eq_some_iff.1 hu).1
  obtain ⟨ad', e, h2⟩ := hc (k * m + j) u ((flat_at hf xs k hk j hj).trans hu)
  cases e
  rw [add_add]
  exact h2

/-! ### A row that a call owns -/
def OwnR (w : World) (g : Nat) (f : α → List Value) (m : Nat) (xs : List α) : Prop := g < w.heap.size ∧ ∀ k (h : k < xs.length), w.rangeAt g (k * m) (f xs[k]) ∧ w.there g (k * m) m
theorem OwnR.on {w w' : World} {g : Nat} {xs : List α} (h : OwnR w g f m xs) (hb : Below w.heap.size w w') : OwnR w' g f m xs := by
  refine ⟨Nat.lt_of_lt_of_le h.1 hb.size, fun k hk => ?_⟩
  obtain ⟨a, b⟩ := h.2 k hk
  refine ⟨fun j v hv => keep_cell hb (a j v hv), fun j hj => ?_⟩
  obtain ⟨c, d⟩ := b j hj
  obtain ⟨v, hv⟩ := Option.isSome_iff_exists.1 c
  exact ⟨by rw [keep_cell hb hv]; rfl, (hb.frozen (p := ⟨g, k * m + j, none⟩) h.1).trans d⟩
theorem zero_add9 (g k : Nat) : (⟨g, 0, none⟩ : Addr).add k = ⟨g, k, none⟩ := by unfold Addr.add; split <;> simp_all
theorem OwnR.rows {w : World} {g cap : Nat} {xs : List α} (h : OwnR w g f m xs) (hf : ∀ x, (f x).length = m) (hc : xs.length ≤ cap) : rowsIn w f (.slice (some ⟨g, 0, none⟩) xs.length cap) xs := by
  refine ⟨some ⟨g, 0, none⟩, cap, rfl, hc, fun e => by simp at e, fun j u hu => ⟨⟨g, 0, none⟩, rfl, ?_⟩⟩
  obtain ⟨k, i, hk, _, rfl, he⟩ := flat_get hf xs j u hu
  rw [zero_add9]
  exact (h.2 k hk).1 i u he
theorem OwnR.take {w : World} {g : Nat} {xs : List α} (h : OwnR w g f m xs) (i : Nat) : OwnR w g f m (xs.take i) := by
  refine ⟨h.1, fun k hk => ?_⟩
  have hk' : k < xs.length := by simp at hk; omega
  rw [List.getElem_take]
  exact h.2 k hk'
theorem far_rows {k i m : Nat} (h : k ≠ i) : (k + 1) * m ≤ i * m ∨ (i + 1) * m ≤ k * m := by
  rcases Nat.lt_or_gt_of_ne h with h | h
  · exact .inl (Nat.mul_le_mul_right m h)
  · exact .inr (Nat.mul_le_mul_right m h)
theorem setCells_size (b : Nat) : ∀ (vs : List Value) (o : Nat) (w : World), (w.setCells b o vs).heap.size = w.heap.size
  | [], _, _ => rfl
  | v :: r, o, w => by rw [World.setCells, setCells_size b r (o + 1)]; simp
theorem below_setCells {B : Nat} {a : World} {g : Nat} (hg : B ≤ g) : ∀ (vs : List Value) (o : Nat) (w : World), Below B a w → Below B a (w.setCells g o vs)
  | [], _, _, h => h
  | v :: r, o, w, h => by rw [World.setCells]; exact below_setCells (a := a) hg r (o + 1) _ (h.setCell (p := ⟨g, o, none⟩) hg v)
theorem OwnR.set {w : World} {g : Nat} {xs : List α} (h : OwnR w g f m xs) (hf : ∀ x, (f x).length = m) {i : Nat} (hi : i < xs.length) (x : α) : OwnR (w.setCells g (i * m) (f x)) g f m (xs.set i x) := by
  have hth : w.there g (i * m) (f x).length := by rw [hf]; exact (h.2 i hi).2
  refine ⟨by rw [setCells_size]; exact h.1, fun k hk => ?_⟩
  have hk' : k < xs.length := by simpa using hk
  obtain ⟨a, b⟩ := h.2 k hk'
  refine ⟨?_, World.there_setCells b _ _ _⟩
  by_cases q : i = k
  · subst q
    rw [List.getElem_set_self]
    exact World.rangeAt_setCells_same _ _ _ _ hth
  · rw [List.getElem_set_ne q]
    intro j v hv
    have hj : j < m := by rw [← hf xs[k]]; exact (List.getElem?_eq_some_iff.1 hv).1
    rw [World.cell?_setCells_out g (f x) (i * m) w ⟨g, k * m + j, none⟩ (fun _ _ => ?_)]
    · exact a j v hv
    · have := far_rows (m := m) (Ne.symm q)
      rw [Nat.succ_mul, Nat.succ_mul] at this
      rw [hf]
      simp only
      omega
theorem OwnR.clear {w : World} {g : Nat} {xs : List α} (h : OwnR w g f m xs) (hf : ∀ x, (f x).length = m) (i : Nat) (vs : List Value) : OwnR (w.setCells g (i * m) vs) g f m (xs.take i) := by
  refine ⟨by rw [setCells_size]; exact h.1, fun k hk => ?_⟩
  have hk' : k < i := by simp at hk; omega
  obtain ⟨a, b⟩ := (h.take i).2 k hk
  have hle : (k + 1) * m ≤ i * m := Nat.mul_le_mul_right m hk'
  rw [Nat.succ_mul] at hle
  refine ⟨fun j v hv => ?_, World.there_setCells b _ _ _⟩
  have hj : j < m := by rw [← hf (xs.take i)[k]]; exact (List.getElem?_eq_some_iff.1 hv).1
  rw [World.cell?_setCells_out g vs (i * m) w ⟨g, k * m + j, none⟩ (fun _ _ => .inl (by simp only; omega))]
  exact a j v hv
/-- A row that was built by append may be written. -/
theorem OwnR.of {w : World} {B g n cap : Nat} {T : TypeId} {xs : List α} (hf : ∀ x, (f x).length = m) (h : w.ownsRow B T m (.slice (some ⟨g, 0, none⟩) n cap) xs.length (xs.flatMap f)) : OwnR w g f m xs ∧ xs.length ≤ cap ∧ cap ≤ maxLen ∧ B ≤ g ∧ n = xs.length := by
  have hc := h.cells rfl
  rcases h.2 with ⟨e, _⟩ | ⟨g', cap', cur, e, hbg, hg, r1, r2, r3, r4⟩
  · cases e
  · cases e
    refine ⟨⟨(Array.getElem?_eq_some_iff.1 hg).1, fun k hk => ⟨fun j v hv => ?_, fun j hj => ⟨?_, frozen_of_row w g _ _ T hg⟩⟩⟩, r1, r2, hbg, rfl⟩
    · have hj : j < m := by rw [← hf xs[k]]; exact (List.getElem?_eq_some_iff.1 hv).1
      have := hc (k * m + j) v ((flat_at hf xs k hk j hj).trans hv)
      rwa [zero_add9] at this
    · have hj' : j < (f xs[k]).length := by rw [hf]; exact hj
      have := hc (k * m + j) _ ((flat_at hf xs k hk j hj).trans (List.getElem?_eq_getElem hj'))
      rw [zero_add9] at this
      rw [this]
      rfl
/-- What lies behind place i is cleared. -/
theorem OwnR.clears {P : Program} {w : World} {g : Nat} {xs : List α} (Z : Array Value) (hZ : Z.size = m) (hm : 0 < m) (h1 : ∀ v ∈ Z.toList, v.oneCell' = true) (h : OwnR w g f m xs) (i n : Nat) (hn : i + n ≤ xs.length) :
    (storeCells ⟨g, i * m, none⟩ (Builtin.zeroCells Z n).toList 0).run P w = .ok () (w.setCells g (i * m) (Builtin.zeroCells Z n).toList) := by
  have hl : (Builtin.zeroCells Z n).toList.length = n * m := by simp [Builtin.zeroCells, hZ]
  have key : ∀ j, j < n * m → (w.cell? ⟨g, i * m + j, none⟩).isSome = true ∧ w.frozen? ⟨g, i * m + j, none⟩ = false := fun j hj => by
    have hd : j / m < n := (Nat.div_lt_iff_lt_mul hm).2 hj
    have he : i * m + j = (i + j / m) * m + j % m := by
      have := Nat.div_add_mod j m
      rw [Nat.add_mul, Nat.mul_comm (j / m) m]
      omega
    rw [he]
    exact (h.2 (i + j / m) (by omega)).2 (j % m) (Nat.mod_lt _ hm)
  have ho : ∀ v ∈ (Builtin.zeroCells Z n).toList, v.oneCell' = true := by
    intro v hv
    simp only [Builtin.zeroCells, Array.toList_map, List.mem_map] at hv
    obtain ⟨j, _, rfl⟩ := hv
    have hlt : j % Z.size < Z.size := Nat.mod_lt _ (by omega)
    rw [getElem!_pos Z _ hlt]
    exact h1 _ (by simp)
  have hst := run_storeCells_cells (P := P) g (i * m) (Builtin.zeroCells Z n).toList 0 w (fun j hj => by rw [Nat.add_zero]; exact (key j (by rw [← hl]; exact hj)).1) (fun j hj => by rw [Nat.add_zero]; exact (key j (by rw [← hl]; exact hj)).2) ho
  simpa only [Nat.add_zero] using hst
theorem loads {w : World} {g o : Nat} {cs : List Value} (h : w.rangeAt g o cs) : ∀ j v, cs[j]? = some v → w.cell? ((⟨g, o, none⟩ : Addr).add j) = some v := fun j v hv => by
  rw [Addr.add_mid]
  exact h j v hv
theorem setRange {w w' : World} {g o : Nat} {cs : List Value} (h : w.rangeAt g o cs) (hb : Below w.heap.size w w') : w'.rangeAt g o cs := fun j v hv => keep_cell hb (h j v hv)
end Rows

/-! ### Loads and stores of one of them, whole -/
section Ops
variable {P : Program} {ops : Array Oper} {rest : List Oper} {o : Oper} {a : Act} {w : World} {Q : Exit → Act → World → Prop}
theorem load_row (hgd : o.guard = none) (ty : TypeId) (x : Operand) (ho : o.op = .load ty x) (p : Addr) (hx : a.eval x = .pointer (some p)) (cs : List Value) (hc : ∀ j v, cs[j]? = some v → w.cell? (p.add j) = some v)
    (d : TypeDesc) (hu : P.underlying ty = some d) (hd : d.isRow = true) (hi : (P.info? ty).map (·.size) = some cs.length) (h : wpList P ops Q rest (a.put o.dst (.agg cs.toArray)) w) : wpList P ops Q (o :: rest) a w := by
  have hl : (loadCells p cs.length).run P w = .ok cs.toArray w := run_loadCells_list (P := P) w p cs hc
  have hv : (loadVar ty p).run P w = .ok (.agg cs.toArray) w := by
    cases hq : P.info? ty with
    | none => simp [hq] at hi
    | some i =>
      have hs : i.size = cs.length := by simpa [hq] using hi
      have hagg : (isAgg ty).run P w = .ok true w := by
        unfold isAgg
        rw [Sem.run_bind, run_underlying hu w]
        cases d <;> simp_all
      simp [loadVar, Sem.run_bind, hagg, sizeOf, typeInfo, hq, hs, hl]
  refine wpList_plain hgd fun K hK => ?_
  unfold Oper.wp execOp
  simp only [ho, hx, Instr.loadAt, Instr.sureAddr, Sem.run_bind, Sem.run_pure, Result.andThen_ok, hv]
  exact hK _ _ h
theorem setRow_new (w : World) (z cs : Array Value) (T : TypeId) : (w.alloc (.cells z T)).setRow w.heap.size cs = w.alloc (.cells cs T) := by
  have h : ∀ k, ((w.alloc (.cells z T)).setRow w.heap.size cs).heap[k]? = (w.alloc (.cells cs T)).heap[k]? := fun k => by
    by_cases e : k = w.heap.size
    · subst e
      rw [setRow_heap _ _ z cs T (0, 0) (heap_alloc_new w _)]
      exact (heap_alloc_new w _).symm
    · rw [setRow_other _ _ _ _ e]
      by_cases hlt : k < w.heap.size
      · rw [Lib.alloc_old w _ k hlt, Lib.alloc_old w _ k hlt]
      · rw [Array.getElem?_eq_none (by simp; omega), Array.getElem?_eq_none (by simp; omega)]
  have hh : ((w.alloc (.cells z T)).setRow w.heap.size cs).heap = (w.alloc (.cells cs T)).heap := Array.ext_getElem? h
  unfold World.setRow World.alloc at *
  simp only at hh ⊢
  rw [hh]
/-- A variable that was just made gets its value. -/
theorem store_new (hgd : o.guard = none) (ty : TypeId) (x y : Operand) (ho : o.op = .store ty x y) (z : Array Value) (cs : List Value) (hx : a.eval x = .pointer (some ⟨w.heap.size, 0, none⟩)) (hy : a.eval y = .agg cs.toArray)
    (hi : (P.info? ty).map (·.size) = some cs.length) (hz : z.size = cs.length) (h1 : ∀ v ∈ cs, v.oneCell' = true) (h : wpList P ops Q rest (a.put o.dst undef) (w.alloc (.cells cs.toArray ty))) : wpList P ops Q (o :: rest) a (w.alloc (.cells z ty)) :=
  wpList_plain hgd fun _ hK => wp_store_row ty x y ho w.heap.size cs.toArray hx hy ty z (heap_alloc_new w _) (by simpa using hi) (by simpa using hz) (all_oneCell_toArray h1) (hK _ _ (by rw [setRow_new]; exact h))
/-- One of a row is stored. -/
theorem store_row (hgd : o.guard = none) (ty : TypeId) (x y : Operand) (ho : o.op = .store ty x y) (b i : Nat) (cs : List Value) (hx : a.eval x = .pointer (some ⟨b, i, none⟩)) (hy : a.eval y = .agg cs.toArray)
    (ht : w.there b i cs.length) (hi : (P.info? ty).map (·.size) = some cs.length) (h1 : ∀ v ∈ cs, v.oneCell' = true) (h : wpList P ops Q rest (a.put o.dst undef) (w.setCells b i cs)) : wpList P ops Q (o :: rest) a w :=
  wpList_store_mid hgd ty x y ho b i cs.toArray hx hy (by simpa using ht) (by simpa using hi) (all_oneCell_toArray h1) (by simpa using h)
theorem new_cells (w : World) (cs : List Value) (T : TypeId) : ∀ j v, cs[j]? = some v → (w.alloc (.cells cs.toArray T)).cell? ((⟨w.heap.size, 0, none⟩ : Addr).add j) = some v := fun j v hv => by
  rw [zero_add9, cell_of_row _ w.heap.size j _ T (0, 0) (heap_alloc_new w _)]
  simpa using hv
end Ops
end Go.Proofs.YthlhopdlkkeohaaGreatDoor.O
/- What counts as plain mathematics (for stage 13): which operations a transaction that counts covers, the items, those at a path and under it, one transaction more. -/
namespace Go.Proofs.YthlhopdlkkeohaaGreatDoor
namespace Lv

/-- An item: which operation, it, and its transaction's time. -/
structure Item where
  x : U
  o : Os.Op
  t : Int
/-- Does one of the operations name it? -/
def names (os : List Os.Op) (x : U) : Bool := os.any fun o => decide (x ∈ o.l)
/-- Does a transaction that counts ('sn') cover it? -/
def covered (l : List Tx.Txn) (sn : D → Bool) (x : U) : Bool := l.any fun t => sn t.d && names t.ops x
/-- A kind that can be an item's. -/
def able (k : Int) : Bool := decide (1 ≤ k ∧ k ≤ 3)
/-- The items of a transaction that counts, from place k on. -/
def items (cov : U → Bool) (d : D) (tm : Int) : Nat → List Os.Op → List Item
  | _, [] => []
  | k, o :: r => if able o.k = true ∧ cov (d, (k : Int)) = false then ⟨(d, (k : Int)), o, tm⟩ :: items cov d tm (k + 1) r else items cov d tm (k + 1) r
/-- Those of one transaction. -/
def itemsOf (cov : U → Bool) (sn : D → Bool) (t : Tx.Txn) : List Item := if sn t.d = true then items cov t.d t.t 0 t.ops else []
def allBy (cov : U → Bool) (sn : D → Bool) (l : List Tx.Txn) : List Item := l.flatMap (itemsOf cov sn)
def all (l : List Tx.Txn) (sn : D → Bool) : List Item := allBy (covered l sn) sn l
def atLeaf (l : List Item) (p : List (List UInt8)) (leaf : Int) : List Item := l.filter fun i => decide (Os.leaf i.o.k = leaf ∧ i.o.p = p)
def refs (l : List Item) : List U := l.map (·.x)
def withT (l : List Tx.Txn) (t : Tx.Txn) : List Tx.Txn := if t.ops = [] then l else Tx.put l t

/-! ### How they grow, place by place -/
theorem items_append (cov : U → Bool) (d : D) (tm : Int) : ∀ (a b : List Os.Op) (k : Nat), items cov d tm k (a ++ b) = items cov d tm k a ++ items cov d tm (k + a.length) b
  | [], b, k => by simp [items]
  | o :: r, b, k => by
    rw [List.cons_append, items, items, items_append cov d tm r b (k + 1), List.length_cons, show k + (r.length + 1) = k + 1 + r.length by omega]
    split <;> simp
theorem items_step (cov : U → Bool) (d : D) (tm : Int) (os : List Os.Op) {k : Nat} (h : k < os.length) :
    items cov d tm 0 (os.take (k + 1)) = items cov d tm 0 (os.take k) ++ (if able os[k].k = true ∧ cov (d, (k : Int)) = false then [⟨(d, (k : Int)), os[k], tm⟩] else []) := by
  rw [List.take_succ_eq_append_getElem h, items_append, List.length_take, Nat.min_eq_left (Nat.le_of_lt h), Nat.zero_add]
  congr 1
theorem allBy_step (cov : U → Bool) (sn : D → Bool) (l : List Tx.Txn) {k : Nat} (h : k < l.length) : allBy cov sn (l.take (k + 1)) = allBy cov sn (l.take k) ++ itemsOf cov sn l[k] := by
  unfold allBy
  rw [List.take_succ_eq_append_getElem h, List.flatMap_append, List.flatMap_cons, List.flatMap_nil, List.append_nil]
theorem items_len (cov : U → Bool) (d : D) (tm : Int) : ∀ (os : List Os.Op) (k : Nat), (items cov d tm k os).length ≤ os.length
  | [], _ => by simp [items]
  | o :: r, k => by
    have := items_len cov d tm r (k + 1)
    rw [items]
    split
    · simp only [List.length_cons]; omega
    · simp only [List.length_cons]; omega
theorem itemsOf_len (cov : U → Bool) (sn : D → Bool) (t : Tx.Txn) : (itemsOf cov sn t).length ≤ t.ops.length := by
  unfold itemsOf
  split
  · exact items_len _ _ _ _ _
  · simp
theorem allBy_len {cov : U → Bool} {sn : D → Bool} {B : Nat} : ∀ {l : List Tx.Txn}, (∀ t ∈ l, t.ops.length ≤ B) → (allBy cov sn l).length ≤ l.length * B
  | [], _ => by simp [allBy]
  | t :: r, h => by
    have h1 := allBy_len (cov := cov) (sn := sn) (l := r) fun x hx => h x (by simp [hx])
    have h2 := itemsOf_len cov sn t
    have h3 := h t (by simp)
    have e : allBy cov sn (t :: r) = itemsOf cov sn t ++ allBy cov sn r := by simp [allBy]
    rw [e, List.length_append, List.length_cons, Nat.succ_mul]
    omega

/-! ### Who is one -/
theorem items_cons (cov : U → Bool) (d : D) (tm : Int) (k : Nat) (o : Os.Op) (r : List Os.Op) :
    items cov d tm k (o :: r) = if able o.k = true ∧ cov (d, (k : Int)) = false then ⟨(d, (k : Int)), o, tm⟩ :: items cov d tm (k + 1) r else items cov d tm (k + 1) r := by rw [items]
theorem mem_items {cov : U → Bool} {d : D} {tm : Int} {i : Item} : ∀ {os : List Os.Op} {k : Nat}, i ∈ items cov d tm k os ↔ ∃ j, ∃ h : j < os.length, able os[j].k = true ∧ cov (d, ((k + j : Nat) : Int)) = false ∧ i = ⟨(d, ((k + j : Nat) : Int)), os[j], tm⟩
  | [], k => by simp [items]
  | o :: r, k => by
    have ih := mem_items (cov := cov) (d := d) (tm := tm) (i := i) (os := r) (k := k + 1)
    have tail : (∃ j, ∃ h : j < r.length, able r[j].k = true ∧ cov (d, ((k + 1 + j : Nat) : Int)) = false ∧ i = ⟨(d, ((k + 1 + j : Nat) : Int)), r[j], tm⟩) ↔ ∃ j, ∃ h : j + 1 < (o :: r).length, able (o :: r)[j + 1].k = true ∧ cov (d, ((k + (j + 1) : Nat) : Int)) = false ∧ i = ⟨(d, ((k + (j + 1) : Nat) : Int)), (o :: r)[j + 1], tm⟩ := by
      constructor
      · rintro ⟨j, h, a, b, c⟩
        refine ⟨j, by simpa using h, by simpa using a, ?_, ?_⟩
        · rw [show k + (j + 1) = k + 1 + j by omega]; exact b
        · rw [show k + (j + 1) = k + 1 + j by omega]; simpa using c
      · rintro ⟨j, h, a, b, c⟩
        refine ⟨j, by simpa using h, by simpa using a, ?_, ?_⟩
        · rw [show k + 1 + j = k + (j + 1) by omega]; exact b
        · rw [show k + 1 + j = k + (j + 1) by omega]; simpa using c
    have split : (∃ j, ∃ h : j < (o :: r).length, able (o :: r)[j].k = true ∧ cov (d, ((k + j : Nat) : Int)) = false ∧ i = ⟨(d, ((k + j : Nat) : Int)), (o :: r)[j], tm⟩) ↔ (able o.k = true ∧ cov (d, (k : Int)) = false ∧ i = ⟨(d, (k : Int)), o, tm⟩) ∨ ∃ j, ∃ h : j + 1 < (o :: r).length, able (o :: r)[j + 1].k = true ∧ cov (d, ((k + (j + 1) : Nat) : Int)) = false ∧ i = ⟨(d, ((k + (j + 1) : Nat) : Int)), (o :: r)[j + 1], tm⟩ := by
      constructor
      · rintro ⟨j, h, a, b, c⟩
        cases j with
        | zero => exact .inl ⟨a, b, c⟩
        | succ j => exact .inr ⟨j, h, a, b, c⟩
      · rintro (⟨a, b, c⟩ | ⟨j, h, a, b, c⟩)
        · exact ⟨0, by simp, a, b, c⟩
        · exact ⟨j + 1, h, a, b, c⟩
    rw [split, ← tail, ← ih, items_cons]
    split
    · rename_i q
      rw [List.mem_cons]
      constructor
      · rintro (e | e)
        · exact .inl ⟨q.1, q.2, e⟩
        · exact .inr e
      · rintro (⟨_, _, e⟩ | e)
        · exact .inl e
        · exact .inr e
    · rename_i q
      constructor
      · intro e; exact .inr e
      · rintro (⟨a, b, _⟩ | e)
        · exact absurd ⟨a, b⟩ q
        · exact e
theorem mem_all {l : List Tx.Txn} {sn : D → Bool} {i : Item} : i ∈ all l sn ↔ ∃ t ∈ l, sn t.d = true ∧ ∃ j, ∃ h : j < t.ops.length, able t.ops[j].k = true ∧ covered l sn (t.d, (j : Int)) = false ∧ i = ⟨(t.d, (j : Int)), t.ops[j], t.t⟩ := by
  unfold all allBy
  rw [List.mem_flatMap]
  constructor
  · rintro ⟨t, ht, hi⟩
    unfold itemsOf at hi
    split at hi
    · rename_i hs
      obtain ⟨j, h, a, b, c⟩ := mem_items.1 hi
      rw [Nat.zero_add] at b c
      exact ⟨t, ht, hs, j, h, a, b, c⟩
    · simp at hi
  · rintro ⟨t, ht, hs, j, h, a, b, c⟩
    refine ⟨t, ht, ?_⟩
    unfold itemsOf
    rw [if_pos hs]
    exact mem_items.2 ⟨j, h, a, by rw [Nat.zero_add]; exact b, by rw [Nat.zero_add]; exact c⟩

/-! ### What follows -/
theorem allBy_without (cov : U → Bool) {sn : D → Bool} {d : D} (h : sn d = false) : ∀ l : List Tx.Txn, allBy cov sn (l.filter fun t => decide (t.d ≠ d)) = allBy cov sn l
  | [] => rfl
  | t :: r => by
    have ih := allBy_without cov h r
    have e : ∀ q : List Tx.Txn, allBy cov sn (t :: q) = itemsOf cov sn t ++ allBy cov sn q := fun q => by simp [allBy]
    by_cases ht : t.d = d
    · rw [List.filter_cons_of_neg (by simp [ht]), ih, e]
      unfold itemsOf
      rw [ht, h, if_neg (by simp), List.nil_append]
    · rw [List.filter_cons_of_pos (by simp [ht]), e, e, ih]
/-- What counts alike is the same. -/
theorem all_alike (l : List Tx.Txn) {sn sn' : D → Bool} (h : ∀ d, sn d = sn' d) : all l sn = all l sn' := by rw [funext h]
/-- What nobody who counts covers is one, if it can be. -/
theorem again {l : List Tx.Txn} {sn : D → Bool} {t : Tx.Txn} (ht : t ∈ l) (hs : sn t.d = true) {j : Nat} (hj : j < t.ops.length) (hk : able t.ops[j].k = true) (hc : covered l sn (t.d, (j : Int)) = false) : (t.d, (j : Int)) ∈ refs (all l sn) :=
  List.mem_map.2 ⟨⟨(t.d, (j : Int)), t.ops[j], t.t⟩, mem_all.2 ⟨t, ht, hs, j, hj, hk, hc, rfl⟩, rfl⟩

/-! ### One transaction more, that covers nothing -/
theorem names_none {os : List Os.Op} (h : ∀ o ∈ os, o.l = []) (x : U) : names os x = false := by
  cases e : names os x with
  | false => rfl
  | true =>
    obtain ⟨o, ho, q⟩ := List.any_eq_true.1 e
    rw [h o ho] at q
    simp at q
theorem items_dot {cov : U → Bool} {d : D} {tm : Int} {os : List Os.Op} {k : Nat} : ∀ i ∈ items cov d tm k os, i.x.1 = d := fun i hi => by
  obtain ⟨j, _, _, _, rfl⟩ := mem_items.1 hi
  rfl
theorem itemsOf_dot {cov : U → Bool} {sn : D → Bool} {t : Tx.Txn} : ∀ i ∈ itemsOf cov sn t, i.x.1 = t.d := fun i hi => by
  unfold itemsOf at hi
  split at hi
  · exact items_dot i hi
  · simp at hi
theorem filter_itemsOf {cov : U → Bool} {sn : D → Bool} {t : Tx.Txn} {d : D} (h : t.d ≠ d) : (itemsOf cov sn t).filter (fun i => decide (i.x.1 ≠ d)) = itemsOf cov sn t :=
  List.filter_eq_self.2 fun i hi => decide_eq_true (by rw [itemsOf_dot i hi]; exact h)
theorem filter_allBy {cov : U → Bool} {sn : D → Bool} {d : D} : ∀ {l : List Tx.Txn}, (∀ y ∈ l, y.d ≠ d) → (allBy cov sn l).filter (fun i => decide (i.x.1 ≠ d)) = allBy cov sn l
  | [], _ => rfl
  | t :: r, h => by
    have e : allBy cov sn (t :: r) = itemsOf cov sn t ++ allBy cov sn r := by simp [allBy]
    rw [e, List.filter_append, filter_itemsOf (h t (by simp)), filter_allBy fun y hy => h y (by simp [hy])]
theorem filter_put {cov : U → Bool} {sn : D → Bool} {t : Tx.Txn} : ∀ {l : List Tx.Txn}, (∀ y ∈ l, y.d ≠ t.d) → (allBy cov sn (Tx.put l t)).filter (fun i => decide (i.x.1 ≠ t.d)) = allBy cov sn l
  | [], _ => by
    have e : allBy cov sn [t] = itemsOf cov sn t := by simp [allBy]
    show (allBy cov sn [t]).filter _ = []
    rw [e]
    exact List.filter_eq_nil_iff.2 fun i hi => by simp [itemsOf_dot i hi]
  | y :: r, h => by
    have e : ∀ (z : Tx.Txn) (q : List Tx.Txn), allBy cov sn (z :: q) = itemsOf cov sn z ++ allBy cov sn q := fun z q => by simp [allBy]
    have hy := h y (by simp)
    unfold Tx.put
    rw [if_neg fun q => hy q.symm]
    split
    · rw [e t, List.filter_append, filter_allBy h]
      rw [List.filter_eq_nil_iff.2 fun i hi => by simp [itemsOf_dot i hi], List.nil_append]
    · rw [e y, e y, List.filter_append, filter_itemsOf hy, filter_put fun z hz => h z (by simp [hz])]
end Lv
end Go.Proofs.YthlhopdlkkeohaaGreatDoor
