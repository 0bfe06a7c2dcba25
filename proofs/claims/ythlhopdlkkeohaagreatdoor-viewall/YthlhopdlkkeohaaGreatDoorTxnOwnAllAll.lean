/- Rows of operations, and of transactions, that a call owns: how they read, and how they grow · The walks of slices.Clone, Grow (of nothing) and Concat, at transactions · Rows of things that take some cells each: how they read, how one that a call owns is written and cleared; and where a filter in place stands. -/
import Derived.Test.YthlhopdlkkeohaaGreatDoorTxnsAll
import Derived.Lib.AppendZerosOnto
import Derived.Laws.AppendOwnNone
import Derived.OwnWalk
import Derived.Deep.MidRow
import Derived.Laws.IdiomCopy
/- Rows of operations, and of transactions, that a call owns: how they read, and how they grow · The walks of slices.Clone, Grow (of nothing) and Concat, at transactions. -/
/- Rows of operations, and of transactions, that a call owns: how they read, and how they grow. -/
namespace Go.Proofs.YthlhopdlkkeohaaGreatDoor.O
open Go.RowKit

theorem own_slice {w : World} {b s n : Nat} {e : TypeId} {v : Value} {xs : List Value} (h : w.ownsRow b e s v n xs) : ∃ ao n c, v = .slice ao n c := by
  rcases h.2 with ⟨rfl, _⟩ | ⟨g, cap, cur, rfl, _⟩
  · exact ⟨_, _, _, rfl⟩
  · exact ⟨_, _, _, rfl⟩
theorem own_set {w : World} {B s n g j : Nat} {e : TypeId} {v : Value} {xs : List Value} (h : w.ownsRow B e s v n xs) (hg : v.ownBlock ≠ some g) (x : Value) : (w.setCell ⟨g, j, none⟩ x).ownsRow B e s v n xs := by
  refine ⟨h.1, ?_⟩
  rcases h.2 with hn | ⟨q, cap, cur, hv, hbq, hq, r⟩
  · exact Or.inl hn
  · refine Or.inr ⟨q, cap, cur, hv, hbq, ?_, r⟩
    have hne : q ≠ g := fun e => hg (by rw [hv, ← e]; rfl)
    exact (Below.heap_setCell w ⟨g, j, none⟩ x q hne).trans hq
theorem add_plus (ad : Addr) (a i : Nat) (hi : 0 < i) : ad.add (a + i) = ⟨(ad.add a).block, (ad.add a).off + i, none⟩ := by
  unfold Addr.add
  rw [if_neg (by omega)]
  by_cases h : a = 0
  · subst h; simp
  · rw [if_neg h]
    simp; omega
/-- A row is not changed where another one grows. -/
theorem own_grown_other {w w1 : World} {B s n : Nat} {e : TypeId} {v : Value} {xs : List Value} {row : Option Nat} (h : w.ownsRow B e s v n xs) (hg : w.grownBy w1 row) (hne : ∀ g, row = some g → v.ownBlock ≠ some g) : w1.ownsRow B e s v n xs := by
  refine ⟨h.1, ?_⟩
  rcases h.2 with hn | ⟨g, cap, cur, hv, hbg, hq, r⟩
  · exact Or.inl hn
  · refine Or.inr ⟨g, cap, cur, hv, hbg, ?_, r⟩
    rw [hg.block g (Array.getElem?_eq_some_iff.1 hq).1 (fun e => hne g e.symm (by rw [hv]; rfl))]
    exact hq
theorem own_types {w : World} {B s n B' s' n' : Nat} {e e' : TypeId} {v v' : Value} {xs xs' : List Value} (h : w.ownsRow B e s v n xs) (h' : w.ownsRow B' e' s' v' n' xs') (he : e ≠ e') : ∀ g, v'.ownBlock = some g → v.ownBlock ≠ some g := by
  intro g hg hg'
  rcases h.2 with ⟨rfl, _⟩ | ⟨k, cap, cur, rfl, _, hk, _⟩
  · cases hg'
  · rcases h'.2 with ⟨rfl, _⟩ | ⟨k', cap', cur', rfl, _, hk', _⟩
    · cases hg
    · have e1 : k = g := Option.some.inj hg'
      have e2 : k' = g := Option.some.inj hg
      subst e1
      subst e2
      rw [hk] at hk'
      have := Option.some.inj hk'
      injection this with _ e3 _
      exact he e3

/-! ### Operations -/
abbrev OE := Os.Op × Value × Value
def ocell (x : OE) : List Value := [.int .i64 x.1.k, x.2.1, .int .i64 x.1.vk, .int .i64 x.1.vn, .string ⟨x.1.vs.toArray⟩, .int .i64 x.1.n, x.2.2]
def ocells (xs : List OE) : List Value := xs.flatMap ocell
theorem ocells_append (a b : List OE) : ocells (a ++ b) = ocells a ++ ocells b := by simp [ocells]
theorem ocells_length : ∀ l : List OE, (ocells l).length = l.length * 7
  | [] => rfl
  | u :: l => by have := ocells_length l; simp [ocells, ocell] at *; omega
theorem ocells_at : ∀ (l : List OE) (k : Nat) (h : k < l.length) (i : Nat) (_ : i < 7), (ocells l)[k * 7 + i]? = (ocell l[k])[i]?
  | u :: l, 0, _, i, hi => by
    have e : ocells (u :: l) = ocell u ++ ocells l := rfl
    rw [e, List.getElem?_append_left (by simp [ocell]; omega)]
    simp
  | u :: l, k + 1, h, i, hi => by
    have := ocells_at l k (by simpa using h) i hi
    have e : ocells (u :: l) = ocell u ++ ocells l := rfl
    rw [e, List.getElem?_append_right (by simp [ocell]; omega)]
    simp only [List.getElem_cons_succ]
    rw [← this]
    congr 1
    simp [ocell]
    omega
theorem slice_one {v : Value} (h : ∃ ao n c, v = .slice ao n c) : v.oneCell' = true := by
  obtain ⟨_, _, _, rfl⟩ := h
  rfl
/-- What each operation's own slices are. -/
def OIn (w : World) (B : Nat) (x : OE) : Prop := w.ownsRow B 9 1 x.2.1 x.1.p.length (U.cellsS x.1.p) ∧ w.ownsRow B 70 3 x.2.2 x.1.l.length (ucells x.1.l)
def opsOwn (w : World) (B : Nat) (v : Value) (os : List Os.Op) : Prop := ∃ xs : List OE, xs.map (·.1) = os ∧ w.ownsRow B 65 7 v xs.length (ocells xs) ∧ ∀ x ∈ xs, OIn w B x
theorem opsOwn_nil (w : World) (B : Nat) : opsOwn w B (.slice none 0 0) [] := ⟨[], rfl, World.ownsRow_nil _ _ _ _, fun x h => by simp at h⟩
theorem opsOwn.map {w w' : World} {B B' : Nat} {v : Value} {os : List Os.Op} (h : opsOwn w B v os) (f : ∀ {e s n v xs}, e ≠ 48 → w.ownsRow B e s v n xs → w'.ownsRow B' e s v n xs) : opsOwn w' B' v os := by
  obtain ⟨xs, h1, h2, h3⟩ := h
  exact ⟨xs, h1, f (by decide) h2, fun x hx => ⟨f (by decide) (h3 x hx).1, f (by decide) (h3 x hx).2⟩⟩
theorem opsOwn.on {w w' : World} {B : Nat} {v : Value} {os : List Os.Op} (h : opsOwn w B v os) (hb : Below w.heap.size w w') : opsOwn w' B v os := h.map fun _ k => own_on k hb
theorem opsOwn.but {w w' : World} {B g : Nat} {v : Value} {os : List Os.Op} (h : opsOwn w B v os) (hb : But g w w') (hg : g < B) : opsOwn w' B v os := h.map fun _ k => own_but k hb hg
theorem opsOwn.low {w : World} {B g j : Nat} {v : Value} {os : List Os.Op} (h : opsOwn w B v os) (hg : g < B) (x : Value) : opsOwn (w.setCell ⟨g, j, none⟩ x) B v os := h.map fun _ k => own_set k (fun q => by have := (k.lt g q).1; omega) x
theorem opsOwn.base {w : World} {B B' : Nat} {v : Value} {os : List Os.Op} (h : opsOwn w B v os) (hb : B' ≤ B) : opsOwn w B' v os := h.map fun _ k => own_base k hb
theorem opsOwn.slice {w : World} {B : Nat} {v : Value} {os : List Os.Op} (h : opsOwn w B v os) : ∃ ao n c, v = .slice ao n c := by
  obtain ⟨xs, _, h2, _⟩ := h
  exact own_slice h2
theorem info47 : ∃ i0, Tryz.prog.info? 65 = some i0 ∧ i0.zero = some (opV 0 (.slice none 0 0) 0 0 [] 0 (.slice none 0 0)) ∧ i0.size = 7 ∧ i0.bytes = 96 := info_parts (by kernel_rfl)
/-! ### Transactions -/
abbrev TE := Tx.Txn × Value
def tcell (x : TE) : List Value := [.int .i64 x.1.d.1, .int .i64 x.1.d.2, .int .i64 x.1.u, .int .i64 x.1.t, .bool x.1.thin, x.2]
def tcells (xs : List TE) : List Value := xs.flatMap tcell
theorem tcells_append (a b : List TE) : tcells (a ++ b) = tcells a ++ tcells b := by simp [tcells]
theorem tcells_length : ∀ l : List TE, (tcells l).length = l.length * 6
  | [] => rfl
  | u :: l => by have := tcells_length l; simp [tcells, tcell] at *; omega
theorem tcells_at : ∀ (l : List TE) (k : Nat) (h : k < l.length) (i : Nat) (_ : i < 6), (tcells l)[k * 6 + i]? = (tcell l[k])[i]?
  | u :: l, 0, _, i, hi => by
    have e : tcells (u :: l) = tcell u ++ tcells l := rfl
    rw [e, List.getElem?_append_left (by simp [tcell]; omega)]
    simp
  | u :: l, k + 1, h, i, hi => by
    have := tcells_at l k (by simpa using h) i hi
    have e : tcells (u :: l) = tcell u ++ tcells l := rfl
    rw [e, List.getElem?_append_right (by simp [tcell]; omega)]
    simp only [List.getElem_cons_succ]
    rw [← this]
    congr 1
    simp [tcell]
    omega
theorem tcells_one {xs : List TE} (h : ∀ x ∈ xs, ∃ ao n c, x.2 = .slice ao n c) : ∀ u ∈ tcells xs, u.oneCell' = true := by
  intro u hu
  simp only [tcells, List.mem_flatMap] at hu
  obtain ⟨x, hx, hu⟩ := hu
  simp only [tcell, List.mem_cons, List.not_mem_nil, or_false] at hu
  rcases hu with rfl | rfl | rfl | rfl | rfl | rfl
  · rfl
  · rfl
  · rfl
  · rfl
  · rfl
  · exact slice_one (h x hx)
/-- A row of transactions that reads as these, their operations as they are told. -/
theorem txsIn_row {w : World} {B : Nat} {v : Value} {xs : List TE} (h2 : w.ownsRow B 56 6 v xs.length (tcells xs)) (h3 : ∀ x ∈ xs, opsIn w x.2 x.1.ops) : txsIn w v (xs.map (·.1)) := by
  rcases h2.2 with ⟨rfl, h0⟩ | ⟨g, cap, cur, rfl, r⟩
  · obtain rfl : xs = [] := List.eq_nil_of_length_eq_zero h0
    exact txsIn_nil w
  · refine ⟨_, cap, by rw [List.length_map], by rw [List.length_map]; exact r.2.2.1, fun e => by simp at e, fun k hk => ?_⟩
    have hk' : k < xs.length := by simpa using hk
    have hc := fun i (hi : i < 6) (u : Value) (hu : (tcell xs[k])[i]? = some u) => h2.cells rfl (k * 6 + i) u ((tcells_at xs k hk' i hi).trans hu)
    have hx := h3 _ (List.getElem_mem hk')
    refine ⟨_, xs[k].2, rfl, ?_, ?_⟩
    · simp only [List.getElem_map]
      refine ⟨hc 0 (by omega) _ rfl, ?_, ?_, ?_, ?_, ?_⟩
      · rw [← add_plus _ _ 1 (by omega)]; exact hc 1 (by omega) _ rfl
      · rw [← add_plus _ _ 2 (by omega)]; exact hc 2 (by omega) _ rfl
      · rw [← add_plus _ _ 3 (by omega)]; exact hc 3 (by omega) _ rfl
      · rw [← add_plus _ _ 4 (by omega)]; exact hc 4 (by omega) _ rfl
      · rw [← add_plus _ _ 5 (by omega)]; exact hc 5 (by omega) _ rfl
    · simp only [List.getElem_map]; exact hx
theorem info26 : ∃ i0, Tryz.prog.info? 56 = some i0 ∧ i0.zero = some (.agg #[.int .i64 0, .int .i64 0, .int .i64 0, .int .i64 0, .bool false, .slice none 0 0]) ∧ i0.size = 6 ∧ i0.bytes = 64 := info_parts (by kernel_rfl)
/-- Transactions are appended to a row that the call owns. -/
theorem append_txs {ops : Array Oper} {rest : List Oper} {o : Oper} {a : Act} {w : World} {Q : Exit → Act → World → Prop} (hgd : o.guard = none) (s x : Operand)
    (ho : o.op = .call { callee := .builtin .append, args := #[s, x], argTypes := #[22, 22] }) (B : Nat) (hB : B ≤ w.heap.size) (r : Value) (acc : List TE) (hs : a.eval s = r) (hown : w.ownsRow B 56 6 r acc.length (tcells acc))
    (ad : Addr) (ys : List TE) (c : Nat) (hx : a.eval x = .slice (some ad) ys.length c) (hv : ∀ j v, (tcells ys)[j]? = some v → w.cell? (ad.add j) = some v) (hone : ∀ u ∈ tcells ys, u.oneCell' = true) (hn : acc.length + ys.length ≤ 1000000)
    (h : ∀ r' w', w'.ownsRow B 56 6 r' (acc ++ ys).length (tcells (acc ++ ys)) → w.grownBy w' r.ownBlock → wpList Tryz.prog ops Q rest (a.put o.dst r') w') : wpList Tryz.prog ops Q (o :: rest) a w := by
  obtain ⟨i0, hi, hz, hz1, hz2⟩ := info26
  refine wpList_append_own w hgd s x 22 ho B 56 i0 _ 6 64 Tryz.underlying22 hi hz hz1 hz2 rfl (by decide) r _ _ hs hown ad ys.length c (tcells ys) hx (tcells_length ys) hv hone (by unfold maxLen; omega) (by omega) hB ?_
  intro v' w1 hown' hg _
  refine h v' w1 ?_ hg
  rw [tcells_append, List.length_append]
  exact hown'
end Go.Proofs.YthlhopdlkkeohaaGreatDoor.O
/- The walks of slices.Clone, Grow (of nothing) and Concat, at transactions. -/
namespace Go.Proofs.YthlhopdlkkeohaaGreatDoor.O
open Go.RowKit

/-- A slice reads as these transactions, their operations' slices written out. -/
def txsE (w : World) (v : Value) (xs : List TE) : Prop := ∃ ao cap, v = .slice ao xs.length cap ∧ xs.length ≤ cap ∧ (ao = none → cap = 0) ∧ (∀ j u, (tcells xs)[j]? = some u → ∃ ad, ao = some ad ∧ w.cell? (ad.add j) = some u) ∧ ∀ x ∈ xs, opsIn w x.2 x.1.ops
theorem txsE.on {w w' : World} {v : Value} {xs : List TE} (h : txsE w v xs) (hb : Below w.heap.size w w') : txsE w' v xs := by
  obtain ⟨ao, cap, hv, hm, h0, hc, ho⟩ := h
  refine ⟨ao, cap, hv, hm, h0, fun j u hu => ?_, fun x hx => (ho x hx).on hb⟩
  obtain ⟨ad, h1, h2⟩ := hc j u hu
  exact ⟨ad, h1, keep_cell hb h2⟩
theorem tcells_get (l : List TE) (j : Nat) (u : Value) (h : (tcells l)[j]? = some u) : ∃ k i, ∃ hk : k < l.length, i < 6 ∧ j = k * 6 + i ∧ (tcell l[k])[i]? = some u := by
  have hj : j < (tcells l).length := (List.getElem?_eq_some_iff.1 h).1
  rw [tcells_length] at hj
  have hk : j / 6 < l.length := by omega
  have he : j = j / 6 * 6 + j % 6 := by omega
  refine ⟨j / 6, j % 6, hk, by omega, he, ?_⟩
  rw [← tcells_at l (j / 6) hk (j % 6) (by omega), ← he, h]
theorem txsE_of {w : World} {v : Value} {l : List Tx.Txn} (h : txsIn w v l) : ∃ xs : List TE, xs.map (·.1) = l ∧ txsE w v xs := by
  obtain ⟨ao, cap, hv, hm, h0, hc⟩ := h
  have each : ∀ i : Fin l.length, ∃ ov, ∃ ad, ao = some ad ∧ TcAt w (ad.add (i.1 * 6)) l[i.1] ov ∧ opsIn w ov l[i.1].ops := fun i => by
    obtain ⟨ad, ov, h1, h2, h3⟩ := hc i.1 i.2
    exact ⟨ov, ad, h1, h2, h3⟩
  refine ⟨List.ofFn fun i : Fin l.length => (l[i.1], (each i).choose), ?_, ao, cap, ?_, ?_, h0, fun j u hu => ?_, fun x hx => ?_⟩
  · rw [List.map_ofFn]
    exact List.ofFn_getElem
  · rw [List.length_ofFn]; exact hv
  · rw [List.length_ofFn]; exact hm
  · obtain ⟨k, i, hk, hi, rfl, he⟩ := tcells_get _ j u hu
    rw [List.getElem_ofFn] at he
    obtain ⟨ad, h1, ⟨g0, g1, g2, g3, g4, g5⟩, _⟩ := (each ⟨k, by simpa using hk⟩).choose_spec
    refine ⟨ad, h1, ?_⟩
    match i, hi, he with
    | 0, _, he => rw [Nat.add_zero, g0]; exact he
    | 1, _, he => rw [add_plus _ _ 1 (by omega), g1]; exact he
    | 2, _, he => rw [add_plus _ _ 2 (by omega), g2]; exact he
    | 3, _, he => rw [add_plus _ _ 3 (by omega), g3]; exact he
    | 4, _, he => rw [add_plus _ _ 4 (by omega), g4]; exact he
    | 5, _, he => rw [add_plus _ _ 5 (by omega), g5]; exact he
  · obtain ⟨i, rfl⟩ := List.mem_ofFn.1 hx
    obtain ⟨ad, h1, _, h3⟩ := (each i).choose_spec
    exact h3
theorem txsE_own {w : World} {B : Nat} {v : Value} {xs : List TE} (h : w.ownsRow B 56 6 v xs.length (tcells xs)) (ho : ∀ x ∈ xs, opsIn w x.2 x.1.ops) : txsIn w v (xs.map (·.1)) := txsIn_row h ho
theorem txsE.take {w : World} {ao : Option Addr} {n cap i : Nat} {xs : List TE} (h : txsE w (.slice ao n cap) xs) (hi : i ≤ n) : txsE w (.slice ao i cap) (xs.take i) := by
  obtain ⟨ao', c, e, hm, h0, hc, ho⟩ := h
  cases e
  refine ⟨ao, cap, by rw [List.length_take, Nat.min_eq_left hi], by rw [List.length_take]; omega, h0, fun j u hu => ?_, fun x hx => ho x (List.mem_of_mem_take hx)⟩
  refine hc j u ?_
  have e : tcells xs = tcells (xs.take i) ++ tcells (xs.drop i) := by rw [← tcells_append, List.take_append_drop]
  rw [e, List.getElem?_append_left ((List.getElem?_eq_some_iff.1 hu).1)]
  exact hu
theorem txsE.drop {w : World} {ao : Option Addr} {n cap i : Nat} {xs : List TE} (h : txsE w (.slice ao n cap) xs) (hi : i ≤ n) : txsE w (.slice (if cap = i then ao else ao.map (·.add (i * 6))) (n - i) (cap - i)) (xs.drop i) := by
  obtain ⟨ao', c, e, hm, h0, hc, ho⟩ := h
  cases e
  refine ⟨_, cap - i, by rw [List.length_drop], by rw [List.length_drop]; omega, fun e => ?_, fun j u hu => ?_, fun x hx => ho x (List.mem_of_mem_drop hx)⟩
  · split at e
    · omega
    · cases ao with
      | none => have := h0 rfl; omega
      | some a => cases e
  · have hj := (List.getElem?_eq_some_iff.1 hu).1
    rw [tcells_length, List.length_drop] at hj
    have e : tcells xs = tcells (xs.take i) ++ tcells (xs.drop i) := by rw [← tcells_append, List.take_append_drop]
    have hl : (tcells (xs.take i)).length = i * 6 := by rw [tcells_length, List.length_take, Nat.min_eq_left hi]
    obtain ⟨ad, h1, h2⟩ := hc (i * 6 + j) u (by
      rw [e, List.getElem?_append_right (by omega), hl]
      rw [show i * 6 + j - i * 6 = j by omega]
      exact hu)
    subst h1
    refine ⟨ad.add (i * 6), by rw [if_neg (by omega)]; rfl, ?_⟩
    rw [add_add]
    exact h2
theorem tcells_oneE {w : World} {xs : List TE} (h : ∀ x ∈ xs, opsIn w x.2 x.1.ops) : ∀ u ∈ tcells xs, u.oneCell' = true := tcells_one fun x hx => by
  obtain ⟨ao, cap, e⟩ := (h x hx).slice
  exact ⟨ao, _, cap, e⟩
theorem txsE_none {w : World} {n cap : Nat} {xs : List TE} (h : txsE w (.slice none n cap) xs) : xs = [] ∧ n = 0 ∧ cap = 0 := by
  obtain ⟨ao, c, e, hm, h0, _, _⟩ := h
  cases e
  have := h0 rfl
  have hz : xs.length = 0 := by omega
  exact ⟨List.eq_nil_of_length_eq_zero hz, hz, by omega⟩
/-- Transactions of any slice are appended. -/
theorem append_any {ops : Array Oper} {rest : List Oper} {o : Oper} {a : Act} {w : World} {Q : Exit → Act → World → Prop} (hgd : o.guard = none) (s x : Operand)
    (ho : o.op = .call { callee := .builtin .append, args := #[s, x], argTypes := #[22, 22] }) (B : Nat) (hB : B ≤ w.heap.size) (r : Value) (acc : List TE) (hs : a.eval s = r) (hown : w.ownsRow B 56 6 r acc.length (tcells acc))
    (v : Value) (ys : List TE) (hx : a.eval x = v) (hv : txsE w v ys) (hn : acc.length + ys.length ≤ 1000000)
    (h : ∀ r' w', w'.ownsRow B 56 6 r' (acc ++ ys).length (tcells (acc ++ ys)) → Below B w w' → wpList Tryz.prog ops Q rest (a.put o.dst r') w') : wpList Tryz.prog ops Q (o :: rest) a w := by
  obtain ⟨ao, cap, rfl, hm, h0, hc, hops⟩ := id hv
  cases ao with
  | none =>
    obtain ⟨rfl, _, rfl⟩ := txsE_none hv
    obtain ⟨i0, hi, hz, hz1, hz2⟩ := info26
    refine wpList_append_own_none hgd s x 22 ho B 56 i0 6 Tryz.underlying22 hi r _ _ hs hown hx ?_
    refine h r w ?_ (Below.refl _ _)
    rw [List.append_nil]
    exact hown
  | some ad =>
    refine append_txs hgd s x ho B hB r acc hs hown ad ys cap hx (fun j u hu => ?_) (tcells_oneE hops) hn fun r' w' h1 h2 => h r' w' h1 (own_grown hown hB (Below.refl _ _) h2)
    obtain ⟨ad', e, h3⟩ := hc j u hu
    cases e
    exact h3

theorem own_emptyT (w : World) : (w.alloc (.cells #[] 56)).ownsRow w.heap.size 56 6 (.slice (some ⟨w.heap.size, 0, none⟩) 0 0) ([] : List TE).length (tcells []) :=
  ⟨rfl, Or.inr ⟨w.heap.size, 0, #[], rfl, Nat.le_refl _, heap_alloc_new w _, Nat.le_refl _, by unfold maxLen; omega, rfl, rfl⟩⟩
set_option maxRecDepth 20000 in
theorem tclone_any (v : Value) (xs : List TE) (w : World) (hv : txsE w v xs) (hn : xs.length ≤ 1000000) :
    Calls Tryz.prog 65 #[v] w fun e w' => ∃ r, e = .returned r ∧ w'.ownsRow w.heap.size 56 6 r xs.length (tcells xs) ∧ Below w.heap.size w w' := by
  obtain ⟨ao, c, rfl, hm, h0, _, _⟩ := id hv
  cases ao with
  | none =>
    obtain ⟨rfl, _, rfl⟩ := txsE_none hv
    have heq : ∀ w, (binOp .eql 22 (.slice none 0 0) (.slice none 0 0)).run Tryz.prog w = .ok (.bool true) w := fun w => by kernel_rfl
    go_enter Tryz.func65, Tryz.ntmps65
    go_wp2
    go_ret
    exact ⟨_, rfl, World.ownsRow_nil _ _ _ _, Below.refl _ _⟩
  | some ad =>
    have hv1 := hv.on (below_new w (.cells #[] 56))
    have hB : w.heap.size ≤ (w.alloc (.cells #[] 56)).heap.size := by simp
    have own := own_emptyT w
    have f7 : ([] : List TE).length + xs.length ≤ 1000000 := by simp; omega
    have HL : Hid (txsE (w.alloc (.cells #[] 56)) (.slice (some ad) xs.length c) xs) := hv1
    clear hv hv1 hm h0
    obtain ⟨n, hn0⟩ : ∃ n, n = xs.length := ⟨_, rfl⟩
    have HN : Hid (n = xs.length) := hn0
    rw [← hn0] at HL ⊢
    clear hn0
    have heq : ∀ w, (binOp .eql 22 (.slice (some ad) n c) (.slice none 0 0)).run Tryz.prog w = .ok (.bool false) w := fun w => by kernel_rfl
    go_enter Tryz.func65, Tryz.ntmps65
    go_wp2_with (at_builtin; refine append_any rfl _ _ rfl w.heap.size hB _ [] rfl own _ xs rfl HL.out f7 ?_; intro r3 w4 own3 below3)
    go_ret
    refine ⟨_, rfl, ?_, ((below_new _ _).mono (Nat.le_refl _)).trans below3⟩
    rw [HN.out]
    exact own3

/-- A slice of slices reads as these. -/
def listsIn (w : World) (v : Value) (vs : List Value) : Prop := ∃ b cap, v = .slice (some ⟨b, 0, none⟩) vs.length cap ∧ ∀ k (h : k < vs.length), w.cell? ⟨b, k, none⟩ = some vs[k]
/-- Each of the slices reads as transactions. -/
def txsAll (w : World) (vs : List Value) (dss : List (List TE)) : Prop := vs.length = dss.length ∧ ∀ k (h : k < vs.length) (h' : k < dss.length), txsE w vs[k] dss[k]
/-- The first ones, and how many there are. -/
def front (dss : List (List TE)) (k : Nat) : List TE := (dss.take k).flatten
def sum (dss : List (List TE)) (k : Nat) : Nat := (front dss k).length
theorem sum_zero (dss : List (List TE)) : sum dss 0 = 0 := by simp [sum, front]
theorem front_step (dss : List (List TE)) (k : Nat) (h : k < dss.length) : front dss (k + 1) = front dss k ++ dss[k] := by
  unfold front
  rw [List.take_succ_eq_append_getElem h, List.flatten_append]
  simp only [List.flatten_cons, List.flatten_nil, List.append_nil]
theorem sum_step (dss : List (List TE)) (k : Nat) (h : k < dss.length) : sum dss (k + 1) = sum dss k + (dss[k]).length := by
  unfold sum
  rw [front_step dss k h, List.length_append]
theorem front_all (dss : List (List TE)) : front dss dss.length = dss.flatten := by unfold front; rw [List.take_length]
theorem sum_le (dss : List (List TE)) (k : Nat) : sum dss k ≤ dss.flatten.length := by
  have : dss.flatten = (dss.take k).flatten ++ (dss.drop k).flatten := by rw [← List.flatten_append, List.take_append_drop]
  rw [this]
  simp [sum, front]

end Go.Proofs.YthlhopdlkkeohaaGreatDoor.O
/- Rows of things that take some cells each: how they read, how one that a call owns is written and cleared; and where a filter in place stands. -/
namespace Go.Proofs.YthlhopdlkkeohaaGreatDoor.O
open Go.RowKit

section Lists
variable {α : Type}
theorem flat_length {f : α → List Value} {m : Nat} (hf : ∀ x, (f x).length = m) : ∀ l : List α, (l.flatMap f).length = l.length * m
  | [] => by simp
  | u :: l => by
    have := flat_length hf l
    rw [List.flatMap_cons, List.length_append, this, hf u, List.length_cons, Nat.succ_mul]
    omega
theorem flat_at {f : α → List Value} {m : Nat} (hf : ∀ x, (f x).length = m) : ∀ (l : List α) (k : Nat) (h : k < l.length) (i : Nat) (_ : i < m), (l.flatMap f)[k * m + i]? = (f l[k])[i]?
  | u :: l, 0, _, i, hi => by
    rw [List.flatMap_cons, List.getElem?_append_left (by rw [hf]; omega)]
    simp
  | u :: l, k + 1, h, i, hi => by
    have := flat_at hf l k (by simpa using h) i hi
    have e : (k + 1) * m + i = m + (k * m + i) := by rw [Nat.succ_mul]; omega
    rw [e, List.flatMap_cons, List.getElem?_append_right (by rw [hf]; omega), hf]
    simp only [List.getElem_cons_succ]
    rw [← this]
    congr 1
    omega
theorem flat_get {f : α → List Value} {m : Nat} (hf : ∀ x, (f x).length = m) (l : List α) (j : Nat) (u : Value) (h : (l.flatMap f)[j]? = some u) : ∃ k i, ∃ hk : k < l.length, i < m ∧ j = k * m + i ∧ (f l[k])[i]? = some u := by
  have hj : j < (l.flatMap f).length := (List.getElem?_eq_some_iff.1 h).1
  rw [flat_length hf] at hj
  have hm : 0 < m := by
    rcases Nat.eq_zero_or_pos m with e | e
    · rw [e] at hj; omega
    · exact e
  have hk : j / m < l.length := (Nat.div_lt_iff_lt_mul hm).2 hj
  have hi : j % m < m := Nat.mod_lt _ hm
  have he : j = j / m * m + j % m := by rw [Nat.mul_comm]; exact (Nat.div_add_mod j m).symm
  refine ⟨j / m, j % m, hk, hi, he, ?_⟩
  rw [← flat_at hf l (j / m) hk (j % m) hi, ← he, h]

/-! ### Where the first one stands that is taken; the filter in place -/
def idxF (p : α → Bool) (l : List α) : Int := match l.findIdx? p with
  | some k => (k : Int)
  | none => -1
def noneF (p : α → Bool) (l : List α) (k : Nat) : Prop := ∀ j (h : j < l.length), j < k → p l[j] = false
theorem noneF_zero (p : α → Bool) (l : List α) : noneF p l 0 := fun _ _ h => absurd h (Nat.not_lt_zero _)
theorem noneF_step {p : α → Bool} {l : List α} {k : Nat} (h : noneF p l k) (hk : k < l.length) (hp : p l[k] = false) : noneF p l (k + 1) := fun j hj h1 => by
  by_cases e : j = k
  · subst e; exact hp
  · exact h j hj (by omega)
theorem idxF_hit {p : α → Bool} {l : List α} {k : Nat} (h : noneF p l k) (hk : k < l.length) (hp : p l[k] = true) : idxF p l = k := by
  have : l.findIdx? p = some k := by
    rw [List.findIdx?_eq_some_iff_getElem]
    exact ⟨hk, hp, fun j hj => by simp [h j (by omega) hj]⟩
  simp [idxF, this]
theorem idxF_miss {p : α → Bool} {l : List α} (h : noneF p l l.length) : idxF p l = -1 := by
  have : l.findIdx? p = none := by
    rw [List.findIdx?_eq_none_iff]
    intro x hx
    obtain ⟨j, hj, rfl⟩ := List.mem_iff_getElem.1 hx
    exact h j hj hj
  simp [idxF, this]
theorem idxF_cases (p : α → Bool) (l : List α) : (idxF p l = -1 ∧ noneF p l l.length) ∨ ∃ k, k < l.length ∧ idxF p l = (k : Int) ∧ noneF p l k ∧ ∃ h : k < l.length, p l[k] = true := by
  unfold idxF
  cases h : l.findIdx? p with
  | none => left; exact ⟨rfl, fun j hj _ => by
      rw [List.findIdx?_eq_none_iff] at h
      exact h _ (List.getElem_mem hj)⟩
  | some k =>
    rw [List.findIdx?_eq_some_iff_getElem] at h
    obtain ⟨hk, hp, hn⟩ := h
    exact Or.inr ⟨k, hk, rfl, fun j hj h1 => by simpa using hn j h1, hk, hp⟩
theorem noneF_filter {p : α → Bool} {l : List α} (h : noneF (fun d => !p d) l l.length) : l.filter p = l := by
  rw [List.filter_eq_self]
  intro x hx
  obtain ⟨j, hj, rfl⟩ := List.mem_iff_getElem.1 hx
  simpa using h j hj hj
/-- Of the first j those that stay stand ahead, what is behind is as it was. -/
def KIn (p : α → Bool) (l : List α) (i j : Nat) (cur : List α) : Prop := cur.length = l.length ∧ i < j ∧ j ≤ l.length ∧ cur.take i = (l.take j).filter p ∧ cur.drop j = l.drop j
theorem KIn.start {p : α → Bool} {l : List α} {k : Nat} (h : noneF (fun d => !p d) l k) (hk : k < l.length) (hp : (!p l[k]) = true) : KIn p l k (k + 1) l := by
  refine ⟨rfl, by omega, by omega, ?_, rfl⟩
  rw [List.take_succ_eq_append_getElem hk, List.filter_append]
  have e1 : [l[k]].filter p = [] := by
    have : p l[k] = false := by simpa using hp
    simp [this]
  rw [e1, List.append_nil]
  symm
  rw [List.filter_eq_self]
  intro x hx
  obtain ⟨j, hj, rfl⟩ := List.mem_iff_getElem.1 hx
  simp at hj
  have := h j (by omega) (by omega)
  rw [List.getElem_take]
  simpa using this
theorem KIn.at {p : α → Bool} {l cur : List α} {i j : Nat} (h : KIn p l i j cur) (hj : j < l.length) : ∃ h' : j < cur.length, cur[j] = l[j] := by
  have h' : j < cur.length := by rw [h.1]; exact hj
  refine ⟨h', ?_⟩
  have e := h.2.2.2.2
  rw [List.drop_eq_getElem_cons h', List.drop_eq_getElem_cons hj] at e
  exact (List.cons.inj e).1
theorem KIn.keep {p : α → Bool} {l cur : List α} {i j : Nat} (h : KIn p l i j cur) (hj : j < l.length) (hp : p l[j] = true) : KIn p l (i + 1) (j + 1) (cur.set i l[j]) := by
  obtain ⟨h1, h2, h3, h4, h5⟩ := h
  refine ⟨by simpa using h1, by omega, by omega, ?_, ?_⟩
  · rw [List.take_succ_eq_append_getElem hj, List.filter_append, ← h4]
    rw [List.take_succ_eq_append_getElem (by simp; omega)]
    congr 1
    · rw [List.take_set_of_le (Nat.le_refl _)]
    · simp [hp]
  · rw [List.drop_set_of_lt (by omega)]
    have : cur.drop (j + 1) = (cur.drop j).drop 1 := by rw [List.drop_drop]
    rw [this, h5, List.drop_drop]
theorem KIn.skip {p : α → Bool} {l cur : List α} {i j : Nat} (h : KIn p l i j cur) (hj : j < l.length) (hp : p l[j] = false) : KIn p l i (j + 1) cur := by
  obtain ⟨h1, h2, h3, h4, h5⟩ := h
  refine ⟨h1, by omega, by omega, ?_, ?_⟩
  · rw [List.take_succ_eq_append_getElem hj, List.filter_append, ← h4]
    simp [hp]
  · have : cur.drop (j + 1) = (cur.drop j).drop 1 := by rw [List.drop_drop]
    rw [this, h5, List.drop_drop]
theorem KIn.len {p : α → Bool} {l cur : List α} {i j : Nat} (h : KIn p l i j cur) : i = ((l.take j).filter p).length := by
  rw [← h.2.2.2.1, List.length_take, h.1]
  have := h.2.1
  have := h.2.2.1
  omega
end Lists

/-! ### How a slice reads -/
section Rows
variable {α : Type} {f : α → List Value} {m : Nat}
def rowsIn (w : World) (f : α → List Value) (v : Value) (xs : List α) : Prop :=
  ∃ ao cap, v = .slice ao xs.length cap ∧ xs.length ≤ cap ∧ (ao = none → cap = 0) ∧ ∀ j u, (xs.flatMap f)[j]? = some u → ∃ ad, ao = some ad ∧ w.cell? (ad.add j) = some u
theorem rowsIn.on {w w' : World} {v : Value} {xs : List α} (h : rowsIn w f v xs) (hb : Below w.heap.size w w') : rowsIn w' f v xs := by
  obtain ⟨ao, cap, hv, hm, h0, hc⟩ := h
  refine ⟨ao, cap, hv, hm, h0, fun j u hu => ?_⟩
  obtain ⟨ad, h1, h2⟩ := hc j u hu
  exact ⟨ad, h1, keep_cell hb h2⟩
/-- The cells of one of them. -/
theorem rowsIn.get {w : World} {ao : Option Addr} {n cap : Nat} {xs : List α} (h : rowsIn w f (.slice ao n cap) xs) (hf : ∀ x, (f x).length = m) (hm : 0 < m) {k : Nat} (hk : k < xs.length) :
    ∃ ad, ao = some ad ∧ ∀ j u, (f xs[k])[j]? = some u → w.cell? ((ad.add (k * m)).add j) = some u := by
  obtain ⟨ao', c, e, _, _, hc⟩ := h
  cases e
  have h0 : 0 < (f xs[k]).length := by rw [hf]; exact hm
  obtain ⟨ad, rfl, _⟩ := hc (k * m + 0) _ ((flat_at hf xs k hk 0 hm).trans (List.getElem?_eq_getElem h0))
  refine ⟨ad, rfl, fun j u hu => ?_⟩
  have hj : j < m := by rw [← hf xs[k]]; exact (List.getElem?_eq_some_iff.1 hu).1
  obtain ⟨ad', e, h2⟩ := hc (k * m + j) u ((flat_at hf xs k hk j hj).trans hu)
  cases e
  rw [add_add]
  exact h2

/-! ### A row that a call owns -/
def OwnR (w : World) (g : Nat) (f : α → List Value) (m : Nat) (xs : List α) : Prop := g < w.heap.size ∧ ∀ k (h : k < xs.length), w.rangeAt g (k * m) (f xs[k]) ∧ w.there g (k * m) m
theorem OwnR.on {w w' : World} {g : Nat} {xs : List α} (h : OwnR w g f m xs) (hb : Below w.heap.size w w') : OwnR w' g f m xs := by
  refine ⟨Nat.lt_of_lt_of_le h.1 hb.size, fun k hk => ?_⟩
  obtain ⟨a, b⟩ := h.2 k hk
  refine ⟨fun j v hv => keep_cell hb (a j v hv), fun j hj => ?_⟩
  obtain ⟨c, d⟩ := b j hj
  obtain ⟨v, hv⟩ := Option.isSome_iff_exists.1 c
  exact ⟨by rw [keep_cell hb hv]; rfl, (hb.frozen (p := ⟨g, k * m + j, none⟩) h.1).trans d⟩
theorem zero_add9 (g k : Nat) : (⟨g, 0, none⟩ : Addr).add k = ⟨g, k, none⟩ := by unfold Addr.add; split <;> simp_all
theorem OwnR.rows {w : World} {g cap : Nat} {xs : List α} (h : OwnR w g f m xs) (hf : ∀ x, (f x).length = m) (hc : xs.length ≤ cap) : rowsIn w f (.slice (some ⟨g, 0, none⟩) xs.length cap) xs := by
  refine ⟨some ⟨g, 0, none⟩, cap, rfl, hc, fun e => by simp at e, fun j u hu => ⟨⟨g, 0, none⟩, rfl, ?_⟩⟩
  obtain ⟨k, i, hk, _, rfl, he⟩ := flat_get hf xs j u hu
  rw [zero_add9]
  exact (h.2 k hk).1 i u he
theorem OwnR.take {w : World} {g : Nat} {xs : List α} (h : OwnR w g f m xs) (i : Nat) : OwnR w g f m (xs.take i) := by
  refine ⟨h.1, fun k hk => ?_⟩
  have hk' : k < xs.length := by simp at hk; omega
  rw [List.getElem_take]
  exact h.2 k hk'
theorem far_rows {k i m : Nat} (h : k ≠ i) : (k + 1) * m ≤ i * m ∨ (i + 1) * m ≤ k * m := by
  rcases Nat.lt_or_gt_of_ne h with h | h
  · exact .inl (Nat.mul_le_mul_right m h)
  · exact .inr (Nat.mul_le_mul_right m h)
theorem setCells_size (b : Nat) : ∀ (vs : List Value) (o : Nat) (w : World), (w.setCells b o vs).heap.size = w.heap.size
  | [], _, _ => rfl
  | v :: r, o, w => by rw [World.setCells, setCells_size b r (o + 1)]; simp
theorem below_setCells {B : Nat} {a : World} {g : Nat} (hg : B ≤ g) : ∀ (vs : List Value) (o : Nat) (w : World), Below B a w → Below B a (w.setCells g o vs)
  | [], _, _, h => h
  | v :: r, o, w, h => by rw [World.setCells]; exact below_setCells (a := a) hg r (o + 1) _ (h.setCell (p := ⟨g, o, none⟩) hg v)
theorem OwnR.set {w : World} {g : Nat} {xs : List α} (h : OwnR w g f m xs) (hf : ∀ x, (f x).length = m) {i : Nat} (hi : i < xs.length) (x : α) : OwnR (w.setCells g (i * m) (f x)) g f m (xs.set i x) := by
  have hth : w.there g (i * m) (f x).length := by rw [hf]; exact (h.2 i hi).2
  refine ⟨by rw [setCells_size]; exact h.1, fun k hk => ?_⟩
  have hk' : k < xs.length := by simpa using hk
  obtain ⟨a, b⟩ := h.2 k hk'
  refine ⟨?_, World.there_setCells b _ _ _⟩
  by_cases q : i = k
  · subst q
    rw [List.getElem_set_self]
    exact World.rangeAt_setCells_same _ _ _ _ hth
  · rw [List.getElem_set_ne q]
    intro j v hv
    have hj : j < m := by rw [← hf xs[k]]; exact (List.getElem?_eq_some_iff.1 hv).1
    rw [World.cell?_setCells_out g (f x) (i * m) w ⟨g, k * m + j, none⟩ (fun _ _ => ?_)]
    · exact a j v hv
    · have := far_rows (m := m) (Ne.symm q)
      rw [Nat.succ_mul, Nat.succ_mul] at this
      rw [hf]
      simp only
      omega
theorem OwnR.clear {w : World} {g : Nat} {xs : List α} (h : OwnR w g f m xs) (hf : ∀ x, (f x).length = m) (i : Nat) (vs : List Value) : OwnR (w.setCells g (i * m) vs) g f m (xs.take i) := by
  refine ⟨by rw [setCells_size]; exact h.1, fun k hk => ?_⟩
  have hk' : k < i := by simp at hk; omega
  obtain ⟨a, b⟩ := (h.take i).2 k hk
  have hle : (k + 1) * m ≤ i * m := Nat.mul_le_mul_right m hk'
  rw [Nat.succ_mul] at hle
  refine ⟨fun j v hv => ?_, World.there_setCells b _ _ _⟩
  have hj : j < m := by rw [← hf (xs.take i)[k]]; exact (List.getElem?_eq_some_iff.1 hv).1
  rw [World.cell?_setCells_out g vs (i * m) w ⟨g, k * m + j, none⟩ (fun _ _ => .inl (by simp only; omega))]
  exact a j v hv
/-- A row that was built by append may be written. -/
theorem OwnR.of {w : World} {B g n cap : Nat} {T : TypeId} {xs : List α} (hf : ∀ x, (f x).length = m) (h : w.ownsRow B T m (.slice (some ⟨g, 0, none⟩) n cap) xs.length (xs.flatMap f)) : OwnR w g f m xs ∧ xs.length ≤ cap ∧ cap ≤ maxLen ∧ B ≤ g ∧ n = xs.length := by
  have hc := h.cells rfl
  rcases h.2 with ⟨e, _⟩ | ⟨g', cap', cur, e, hbg, hg, r1, r2, r3, r4⟩
  · cases e
  · cases e
    refine ⟨⟨(Array.getElem?_eq_some_iff.1 hg).1, fun k hk => ⟨fun j v hv => ?_, fun j hj => ⟨?_, frozen_of_row w g _ _ T hg⟩⟩⟩, r1, r2, hbg, rfl⟩
    · have hj : j < m := by rw [← hf xs[k]]; exact (List.getElem?_eq_some_iff.1 hv).1
      have := hc (k * m + j) v ((flat_at hf xs k hk j hj).trans hv)
      rwa [zero_add9] at this
    · have hj' : j < (f xs[k]).length := by rw [hf]; exact hj
      have := hc (k * m + j) _ ((flat_at hf xs k hk j hj).trans (List.getElem?_eq_getElem hj'))
      rw [zero_add9] at this
      rw [this]
      rfl
/-- What lies behind place i is cleared. -/
theorem OwnR.clears {P : Program} {w : World} {g : Nat} {xs : List α} (Z : Array Value) (hZ : Z.size = m) (hm : 0 < m) (h1 : ∀ v ∈ Z.toList, v.oneCell' = true) (h : OwnR w g f m xs) (i n : Nat) (hn : i + n ≤ xs.length) :
    (storeCells ⟨g, i * m, none⟩ (Builtin.zeroCells Z n).toList 0).run P w = .ok () (w.setCells g (i * m) (Builtin.zeroCells Z n).toList) := by
  have hl : (Builtin.zeroCells Z n).toList.length = n * m := by simp [Builtin.zeroCells, hZ]
  have key : ∀ j, j < n * m → (w.cell? ⟨g, i * m + j, none⟩).isSome = true ∧ w.frozen? ⟨g, i * m + j, none⟩ = false := fun j hj => by
    have hd : j / m < n := (Nat.div_lt_iff_lt_mul hm).2 hj
    have he : i * m + j = (i + j / m) * m + j % m := by
      have := Nat.div_add_mod j m
      rw [Nat.add_mul, Nat.mul_comm (j / m) m]
      omega
    rw [he]
    exact (h.2 (i + j / m) (by omega)).2 (j % m) (Nat.mod_lt _ hm)
  have ho : ∀ v ∈ (Builtin.zeroCells Z n).toList, v.oneCell' = true := by
    intro v hv
    simp only [Builtin.zeroCells, Array.toList_map, List.mem_map] at hv
    obtain ⟨j, _, rfl⟩ := hv
    have hlt : j % Z.size < Z.size := Nat.mod_lt _ (by omega)
    rw [getElem!_pos Z _ hlt]
    exact h1 _ (by simp)
  have hst := run_storeCells_cells (P := P) g (i * m) (Builtin.zeroCells Z n).toList 0 w (fun j hj => by rw [Nat.add_zero]; exact (key j (by rw [← hl]; exact hj)).1) (fun j hj => by rw [Nat.add_zero]; exact (key j (by rw [← hl]; exact hj)).2) ho
  simpa only [Nat.add_zero] using hst
theorem loads {w : World} {g o : Nat} {cs : List Value} (h : w.rangeAt g o cs) : ∀ j v, cs[j]? = some v → w.cell? ((⟨g, o, none⟩ : Addr).add j) = some v := fun j v hv => by
  rw [Addr.add_mid]
  exact h j v hv
theorem setRange {w w' : World} {g o : Nat} {cs : List Value} (h : w.rangeAt g o cs) (hb : Below w.heap.size w w') : w'.rangeAt g o cs := fun j v hv => keep_cell hb (h j v hv)
end Rows

/-! ### Loads and stores of one of them, whole -/
section Ops
variable {P : Program} {ops : Array Oper} {rest : List Oper} {o : Oper} {a : Act} {w : World} {Q : Exit → Act → World → Prop}
theorem load_row (hgd : o.guard = none) (ty : TypeId) (x : Operand) (ho : o.op = .load ty x) (p : Addr) (hx : a.eval x = .pointer (some p)) (cs : List Value) (hc : ∀ j v, cs[j]? = some v → w.cell? (p.add j) = some v)
    (d : TypeDesc) (hu : P.underlying ty = some d) (hd : d.isRow = true) (hi : (P.info? ty).map (·.size) = some cs.length) (h : wpList P ops Q rest (a.put o.dst (.agg cs.toArray)) w) : wpList P ops Q (o :: rest) a w := by
  have hl : (loadCells p cs.length).run P w = .ok cs.toArray w := run_loadCells_list (P := P) w p cs hc
  have hv : (loadVar ty p).run P w = .ok (.agg cs.toArray) w := by
    cases hq : P.info? ty with
    | none => simp [hq] at hi
    | some i =>
      have hs : i.size = cs.length := by simpa [hq] using hi
      have hagg : (isAgg ty).run P w = .ok true w := by
        unfold isAgg
        rw [Sem.run_bind, run_underlying hu w]
        cases d <;> simp_all
      simp [loadVar, Sem.run_bind, hagg, sizeOf, typeInfo, hq, hs, hl]
  refine wpList_plain hgd fun K hK => ?_
  unfold Oper.wp execOp
  simp only [ho, hx, Instr.loadAt, Instr.sureAddr, Sem.run_bind, Sem.run_pure, Result.andThen_ok, hv]
  exact hK _ _ h
theorem setRow_new (w : World) (z cs : Array Value) (T : TypeId) : (w.alloc (.cells z T)).setRow w.heap.size cs = w.alloc (.cells cs T) := by
  have h : ∀ k, ((w.alloc (.cells z T)).setRow w.heap.size cs).heap[k]? = (w.alloc (.cells cs T)).heap[k]? := fun k => by
    by_cases e : k = w.heap.size
    · subst e
      rw [setRow_heap _ _ z cs T (0, 0) (heap_alloc_new w _)]
      exact (heap_alloc_new w _).symm
    · rw [setRow_other _ _ _ _ e]
      by_cases hlt : k < w.heap.size
      · rw [Lib.alloc_old w _ k hlt, Lib.alloc_old w _ k hlt]
      · rw [Array.getElem?_eq_none (by simp; omega), Array.getElem?_eq_none (by simp; omega)]
  have hh : ((w.alloc (.cells z T)).setRow w.heap.size cs).heap = (w.alloc (.cells cs T)).heap := Array.ext_getElem? h
  unfold World.setRow World.alloc at *
  simp only at hh ⊢
  rw [hh]
/-- A variable that was just made gets its value. -/
theorem store_new (hgd : o.guard = none) (ty : TypeId) (x y : Operand) (ho : o.op = .store ty x y) (z : Array Value) (cs : List Value) (hx : a.eval x = .pointer (some ⟨w.heap.size, 0, none⟩)) (hy : a.eval y = .agg cs.toArray)
    (hi : (P.info? ty).map (·.size) = some cs.length) (hz : z.size = cs.length) (h1 : ∀ v ∈ cs, v.oneCell' = true) (h : wpList P ops Q rest (a.put o.dst undef) (w.alloc (.cells cs.toArray ty))) : wpList P ops Q (o :: rest) a (w.alloc (.cells z ty)) :=
  wpList_plain hgd fun _ hK => wp_store_row ty x y ho w.heap.size cs.toArray hx hy ty z (heap_alloc_new w _) (by simpa using hi) (by simpa using hz) (all_oneCell_toArray h1) (hK _ _ (by rw [setRow_new]; exact h))
/-- One of a row is stored. -/
theorem store_row (hgd : o.guard = none) (ty : TypeId) (x y : Operand) (ho : o.op = .store ty x y) (b i : Nat) (cs : List Value) (hx : a.eval x = .pointer (some ⟨b, i, none⟩)) (hy : a.eval y = .agg cs.toArray)
    (ht : w.there b i cs.length) (hi : (P.info? ty).map (·.size) = some cs.length) (h1 : ∀ v ∈ cs, v.oneCell' = true) (h : wpList P ops Q rest (a.put o.dst undef) (w.setCells b i cs)) : wpList P ops Q (o :: rest) a w :=
  wpList_store_mid hgd ty x y ho b i cs.toArray hx hy (by simpa using ht) (by simpa using hi) (all_oneCell_toArray h1) (by simpa using h)
theorem new_cells (w : World) (cs : List Value) (T : TypeId) : ∀ j v, cs[j]? = some v → (w.alloc (.cells cs.toArray T)).cell? ((⟨w.heap.size, 0, none⟩ : Addr).add j) = some v := fun j v hv => by
  rw [zero_add9, cell_of_row _ w.heap.size j _ T (0, 0) (heap_alloc_new w _)]
  simpa using hv
end Ops
end Go.Proofs.YthlhopdlkkeohaaGreatDoor.O
