/- Rows of operations, and of transactions, that a call owns: how they read, and how they grow · The walks of slices.Clone, Grow (of nothing) and Concat, at transactions. -/
import Derived.Test.YthlhopdlkkeohaaGreatDoorOpMemAll
import Derived.Lib.AppendZerosOnto
import Derived.Laws.AppendOwnNone
import Derived.OwnWalk
/- Rows of operations, and of transactions, that a call owns: how they read, and how they grow. -/
namespace Go.Proofs.YthlhopdlkkeohaaGreatDoor.O
open Go.RowKit

theorem own_slice {w : World} {b s n : Nat} {e : TypeId} {v : Value} {xs : List Value} (h : w.ownsRow b e s v n xs) : ∃ ao n c, v = .slice ao n c := by
  rcases h.2 with ⟨rfl, _⟩ | ⟨g, cap, cur, rfl, _⟩
  · exact ⟨_, _, _, rfl⟩
  · exact ⟨_, _, _, rfl⟩
theorem own_set {w : World} {B s n g j : Nat} {e : TypeId} {v : Value} {xs : List Value} (h : w.ownsRow B e s v n xs) (hg : v.ownBlock ≠ some g) (x : Value) : (w.setCell ⟨g, j, none⟩ x).ownsRow B e s v n xs := by
  refine ⟨h.1, ?_⟩
  rcases h.2 with hn | ⟨q, cap, cur, hv, hbq, hq, r⟩
  · exact Or.inl hn
  · refine Or.inr ⟨q, cap, cur, hv, hbq, ?_, r⟩
    have hne : q ≠ g := fun e => hg (by rw [hv, ← e]; rfl)
    exact (Below.heap_setCell w ⟨g, j, none⟩ x q hne).trans hq
theorem add_plus (ad : Addr) (a i : Nat) (hi : 0 < i) : ad.add (a + i) = ⟨(ad.add a).block, (ad.add a).off + i, none⟩ := by
  unfold Addr.add
  rw [if_neg (by omega)]
  by_cases h : a = 0
  · subst h; simp
  · rw [if_neg h]
    simp; omega
/-- A row is not changed where another one grows. -/
theorem own_grown_other {w w1 : World} {B s n : Nat} {e : TypeId} {v : Value} {xs : List Value} {row : Option Nat} (h : w.ownsRow B e s v n xs) (hg : w.grownBy w1 row) (hne : ∀ g, row = some g → v.ownBlock ≠ some g) : w1.ownsRow B e s v n xs := by
  refine ⟨h.1, ?_⟩
  rcases h.2 with hn | ⟨g, cap, cur, hv, hbg, hq, r⟩
  · exact Or.inl hn
  · refine Or.inr ⟨g, cap, cur, hv, hbg, ?_, r⟩
    rw [hg.block g (Array.getElem?_eq_some_iff.1 hq).1 (fun e => hne g e.symm (by rw [hv]; rfl))]
    exact hq
theorem own_types {w : World} {B s n B' s' n' : Nat} {e e' : TypeId} {v v' : Value} {xs xs' : List Value} (h : w.ownsRow B e s v n xs) (h' : w.ownsRow B' e' s' v' n' xs') (he : e ≠ e') : ∀ g, v'.ownBlock = some g → v.ownBlock ≠ some g := by
  intro g hg hg'
  rcases h.2 with ⟨rfl, _⟩ | ⟨k, cap, cur, rfl, _, hk, _⟩
  · cases hg'
  · rcases h'.2 with ⟨rfl, _⟩ | ⟨k', cap', cur', rfl, _, hk', _⟩
    · cases hg
    · have e1 : k = g := Option.some.inj hg'
      have e2 : k' = g := Option.some.inj hg
      subst e1
      subst e2
      rw [hk] at hk'
      have := Option.some.inj hk'
      injection this with _ e3 _
      exact he e3

/-! ### Operations -/
abbrev OE := Os.Op × Value × Value
def ocell (x : OE) : List Value := [.int .i64 x.1.k, x.2.1, .int .i64 x.1.vk, .int .i64 x.1.vn, .string ⟨x.1.vs.toArray⟩, .int .i64 x.1.n, x.2.2]
def ocells (xs : List OE) : List Value := xs.flatMap ocell
theorem ocells_append (a b : List OE) : ocells (a ++ b) = ocells a ++ ocells b := by simp [ocells]
theorem ocells_length : ∀ l : List OE, (ocells l).length = l.length * 7
  | [] => rfl
  | u :: l => by have := ocells_length l; simp [ocells, ocell] at *; omega
theorem ocells_at : ∀ (l : List OE) (k : Nat) (h : k < l.length) (i : Nat) (_ : i < 7), (ocells l)[k * 7 + i]? = (ocell l[k])[i]?
  | u :: l, 0, _, i, hi => by
    have e : ocells (u :: l) = ocell u ++ ocells l := rfl
    rw [e, List.getElem?_append_left (by simp [ocell]; omega)]
    simp
  | u :: l, k + 1, h, i, hi => by
    have := ocells_at l k (by simpa using h) i hi
    have e : ocells (u :: l) = ocell u ++ ocells l := rfl
    rw [e, List.getElem?_append_right (by simp [ocell]; omega)]
    simp only [List.getElem_cons_succ]
    rw [← this]
    congr 1
    simp [ocell]
    omega
theorem slice_one {v : Value} (h : ∃ ao n c, v = .slice ao n c) : v.oneCell' = true := by
  obtain ⟨_, _, _, rfl⟩ := h
  rfl
/-- What each operation's own slices are. -/
def OIn (w : World) (B : Nat) (x : OE) : Prop := w.ownsRow B 9 1 x.2.1 x.1.p.length (U.cellsS x.1.p) ∧ w.ownsRow B 70 3 x.2.2 x.1.l.length (ucells x.1.l)
def opsOwn (w : World) (B : Nat) (v : Value) (os : List Os.Op) : Prop := ∃ xs : List OE, xs.map (·.1) = os ∧ w.ownsRow B 65 7 v xs.length (ocells xs) ∧ ∀ x ∈ xs, OIn w B x
theorem opsOwn_nil (w : World) (B : Nat) : opsOwn w B (.slice none 0 0) [] := ⟨[], rfl, World.ownsRow_nil _ _ _ _, fun x h => by simp at h⟩
theorem opsOwn.map {w w' : World} {B B' : Nat} {v : Value} {os : List Os.Op} (h : opsOwn w B v os) (f : ∀ {e s n v xs}, e ≠ 48 → w.ownsRow B e s v n xs → w'.ownsRow B' e s v n xs) : opsOwn w' B' v os := by
  obtain ⟨xs, h1, h2, h3⟩ := h
  exact ⟨xs, h1, f (by decide) h2, fun x hx => ⟨f (by decide) (h3 x hx).1, f (by decide) (h3 x hx).2⟩⟩
theorem opsOwn.on {w w' : World} {B : Nat} {v : Value} {os : List Os.Op} (h : opsOwn w B v os) (hb : Below w.heap.size w w') : opsOwn w' B v os := h.map fun _ k => own_on k hb
theorem opsOwn.but {w w' : World} {B g : Nat} {v : Value} {os : List Os.Op} (h : opsOwn w B v os) (hb : But g w w') (hg : g < B) : opsOwn w' B v os := h.map fun _ k => own_but k hb hg
theorem opsOwn.low {w : World} {B g j : Nat} {v : Value} {os : List Os.Op} (h : opsOwn w B v os) (hg : g < B) (x : Value) : opsOwn (w.setCell ⟨g, j, none⟩ x) B v os := h.map fun _ k => own_set k (fun q => by have := (k.lt g q).1; omega) x
theorem opsOwn.base {w : World} {B B' : Nat} {v : Value} {os : List Os.Op} (h : opsOwn w B v os) (hb : B' ≤ B) : opsOwn w B' v os := h.map fun _ k => own_base k hb
theorem opsOwn.slice {w : World} {B : Nat} {v : Value} {os : List Os.Op} (h : opsOwn w B v os) : ∃ ao n c, v = .slice ao n c := by
  obtain ⟨xs, _, h2, _⟩ := h
  exact own_slice h2
theorem info47 : ∃ i0, Tryz.prog.info? 65 = some i0 ∧ i0.zero = some (opV 0 (.slice none 0 0) 0 0 [] 0 (.slice none 0 0)) ∧ i0.size = 7 ∧ i0.bytes = 96 := info_parts (by kernel_rfl)
/-! ### Transactions -/
abbrev TE := Tx.Txn × Value
def tcell (x : TE) : List Value := [.int .i64 x.1.d.1, .int .i64 x.1.d.2, .int .i64 x.1.u, .int .i64 x.1.t, .bool x.1.thin, x.2]
def tcells (xs : List TE) : List Value := xs.flatMap tcell
theorem tcells_append (a b : List TE) : tcells (a ++ b) = tcells a ++ tcells b := by simp [tcells]
theorem tcells_length : ∀ l : List TE, (tcells l).length = l.length * 6
  | [] => rfl
  | u :: l => by have := tcells_length l; simp [tcells, tcell] at *; omega
theorem tcells_at : ∀ (l : List TE) (k : Nat) (h : k < l.length) (i : Nat) (_ : i < 6), (tcells l)[k * 6 + i]? = (tcell l[k])[i]?
  | u :: l, 0, _, i, hi => by
    have e : tcells (u :: l) = tcell u ++ tcells l := rfl
    rw [e, List.getElem?_append_left (by simp [tcell]; omega)]
    simp
  | u :: l, k + 1, h, i, hi => by
    have := tcells_at l k (by simpa using h) i hi
    have e : tcells (u :: l) = tcell u ++ tcells l := rfl
    rw [e, List.getElem?_append_right (by simp [tcell]; omega)]
    simp only [List.getElem_cons_succ]
    rw [← this]
    congr 1
    simp [tcell]
    omega
theorem tcells_one {xs : List TE} (h : ∀ x ∈ xs, ∃ ao n c, x.2 = .slice ao n c) : ∀ u ∈ tcells xs, u.oneCell' = true := by
  intro u hu
  simp only [tcells, List.mem_flatMap] at hu
  obtain ⟨x, hx, hu⟩ := hu
  simp only [tcell, List.mem_cons, List.not_mem_nil, or_false] at hu
  rcases hu with rfl | rfl | rfl | rfl | rfl | rfl
  · rfl
  · rfl
  · rfl
  · rfl
  · rfl
  · exact slice_one (h x hx)
/-- A row of transactions that reads as these, their operations as they are told. -/
theorem txsIn_row {w : World} {B : Nat} {v : Value} {xs : List TE} (h2 : w.ownsRow B 56 6 v xs.length (tcells xs)) (h3 : ∀ x ∈ xs, opsIn w x.2 x.1.ops) : txsIn w v (xs.map (·.1)) := by
  rcases h2.2 with ⟨rfl, h0⟩ | ⟨g, cap, cur, rfl, r⟩
  · obtain rfl : xs = [] := List.eq_nil_of_length_eq_zero h0
    exact txsIn_nil w
  · refine ⟨_, cap, by rw [List.length_map], by rw [List.length_map]; exact r.2.2.1, fun e => by simp at e, fun k hk => ?_⟩
    have hk' : k < xs.length := by simpa using hk
    have hc := fun i (hi : i < 6) (u : Value) (hu : (tcell xs[k])[i]? = some u) => h2.cells rfl (k * 6 + i) u ((tcells_at xs k hk' i hi).trans hu)
    have hx := h3 _ (List.getElem_mem hk')
    refine ⟨_, xs[k].2, rfl, ?_, ?_⟩
    · simp only [List.getElem_map]
      refine ⟨hc 0 (by omega) _ rfl, ?_, ?_, ?_, ?_, ?_⟩
      · rw [← add_plus _ _ 1 (by omega)]; exact hc 1 (by omega) _ rfl
      · rw [← add_plus _ _ 2 (by omega)]; exact hc 2 (by omega) _ rfl
      · rw [← add_plus _ _ 3 (by omega)]; exact hc 3 (by omega) _ rfl
      · rw [← add_plus _ _ 4 (by omega)]; exact hc 4 (by omega) _ rfl
      · rw [← add_plus _ _ 5 (by omega)]; exact hc 5 (by omega) _ rfl
    · simp only [List.getElem_map]; exact hx
theorem info26 : ∃ i0, Tryz.prog.info? 56 = some i0 ∧ i0.zero = some (.agg #[.int .i64 0, .int .i64 0, .int .i64 0, .int .i64 0, .bool false, .slice none 0 0]) ∧ i0.size = 6 ∧ i0.bytes = 64 := info_parts (by kernel_rfl)
/-- Transactions are appended to a row that the call owns. -/
theorem append_txs {ops : Array Oper} {rest : List Oper} {o : Oper} {a : Act} {w : World} {Q : Exit → Act → World → Prop} (hgd : o.guard = none) (s x : Operand)
    (ho : o.op = .call { callee := .builtin .append, args := #[s, x], argTypes := #[22, 22] }) (B : Nat) (hB : B ≤ w.heap.size) (r : Value) (acc : List TE) (hs : a.eval s = r) (hown : w.ownsRow B 56 6 r acc.length (tcells acc))
    (ad : Addr) (ys : List TE) (c : Nat) (hx : a.eval x = .slice (some ad) ys.length c) (hv : ∀ j v, (tcells ys)[j]? = some v → w.cell? (ad.add j) = some v) (hone : ∀ u ∈ tcells ys, u.oneCell' = true) (hn : acc.length + ys.length ≤ 1000000)
    (h : ∀ r' w', w'.ownsRow B 56 6 r' (acc ++ ys).length (tcells (acc ++ ys)) → w.grownBy w' r.ownBlock → wpList Tryz.prog ops Q rest (a.put o.dst r') w') : wpList Tryz.prog ops Q (o :: rest) a w := by
  obtain ⟨i0, hi, hz, hz1, hz2⟩ := info26
  refine wpList_append_own w hgd s x 22 ho B 56 i0 _ 6 64 Tryz.underlying22 hi hz hz1 hz2 rfl (by decide) r _ _ hs hown ad ys.length c (tcells ys) hx (tcells_length ys) hv hone (by unfold maxLen; omega) (by omega) hB ?_
  intro v' w1 hown' hg _
  refine h v' w1 ?_ hg
  rw [tcells_append, List.length_append]
  exact hown'
end Go.Proofs.YthlhopdlkkeohaaGreatDoor.O
/- The walks of slices.Clone, Grow (of nothing) and Concat, at transactions. -/
namespace Go.Proofs.YthlhopdlkkeohaaGreatDoor.O
open Go.RowKit

/-- A slice reads as these transactions, their operations' slices written out. -/
def txsE (w : World) (v : Value) (xs : List TE) : Prop := ∃ ao cap, v = .slice ao xs.length cap ∧ xs.length ≤ cap ∧ (ao = none → cap = 0) ∧ (∀ j u, (tcells xs)[j]? = some u → ∃ ad, ao = some ad ∧ w.cell? (ad.add j) = some u) ∧ ∀ x ∈ xs, opsIn w x.2 x.1.ops
theorem txsE.on {w w' : World} {v : Value} {xs : List TE} (h : txsE w v xs) (hb : Below w.heap.size w w') : txsE w' v xs := by
  obtain ⟨ao, cap, hv, hm, h0, hc, ho⟩ := h
  refine ⟨ao, cap, hv, hm, h0, fun j u hu => ?_, fun x hx => (ho x hx).on hb⟩
  obtain ⟨ad, h1, h2⟩ := hc j u hu
  exact ⟨ad, h1, keep_cell hb h2⟩
theorem tcells_get (l : List TE) (j : Nat) (u : Value) (h : (tcells l)[j]? = some u) : ∃ k i, ∃ hk : k < l.length, i < 6 ∧ j = k * 6 + i ∧ (tcell l[k])[i]? = some u := by
  have hj : j < (tcells l).length := (List.getElem?_eq_some_iff.1 h).1
  rw [tcells_length] at hj
  have hk : j / 6 < l.length := by omega
  have he : j = j / 6 * 6 + j % 6 := by omega
  refine ⟨j / 6, j % 6, hk, by omega, he, ?_⟩
  rw [← tcells_at l (j / 6) hk (j % 6) (by omega), ← he, h]
theorem txsE_of {w : World} {v : Value} {l : List Tx.Txn} (h : txsIn w v l) : ∃ xs : List TE, xs.map (·.1) = l ∧ txsE w v xs := by
  obtain ⟨ao, cap, hv, hm, h0, hc⟩ := h
  have each : ∀ i : Fin l.length, ∃ ov, ∃ ad, ao = some ad ∧ TcAt w (ad.add (i.1 * 6)) l[i.1] ov ∧ opsIn w ov l[i.1].ops := fun i => by
    obtain ⟨ad, ov, h1, h2, h3⟩ := hc i.1 i.2
    exact ⟨ov, ad, h1, h2, h3⟩
  refine ⟨List.ofFn fun i : Fin l.length => (l[i.1], (each i).choose), ?_, ao, cap, ?_, ?_, h0, fun j u hu => ?_, fun x hx => ?_⟩
  · rw [List.map_ofFn]
    exact List.ofFn_getElem
  · rw [List.length_ofFn]; exact hv
  · rw [List.length_ofFn]; exact hm
  · obtain ⟨k, i, hk, hi, rfl, he⟩ := tcells_get _ j u hu
    rw [List.getElem_ofFn] at he
    obtain ⟨ad, h1, ⟨g0, g1, g2, g3, g4, g5⟩, _⟩ := (each ⟨k, by simpa using hk⟩).choose_spec
    refine ⟨ad, h1, ?_⟩
    match i, hi, he with
    | 0, _, he => rw [Nat.add_zero, g0]; exact he
    | 1, _, he => rw [add_plus _ _ 1 (by omega), g1]; exact he
    | 2, _, he => rw [add_plus _ _ 2 (by omega), g2]; exact he
    | 3, _, he => rw [add_plus _ _ 3 (by omega), g3]; exact he
    | 4, _, he => rw [add_plus _ _ 4 (by omega), g4]; exact he
    | 5, _, he => rw [add_plus _ _ 5 (by omega), g5]; exact he
  · obtain ⟨i, rfl⟩ := List.mem_ofFn.1 hx
    obtain ⟨ad, h1, _, h3⟩ := (each i).choose_spec
    exact h3
theorem txsE_own {w : World} {B : Nat} {v : Value} {xs : List TE} (h : w.ownsRow B 56 6 v xs.length (tcells xs)) (ho : ∀ x ∈ xs, opsIn w x.2 x.1.ops) : txsIn w v (xs.map (·.1)) := txsIn_row h ho
theorem txsE.take {w : World} {ao : Option Addr} {n cap i : Nat} {xs : List TE} (h : txsE w (.slice ao n cap) xs) (hi : i ≤ n) : txsE w (.slice ao i cap) (xs.take i) := by
  obtain ⟨ao', c, e, hm, h0, hc, ho⟩ := h
  cases e
  refine ⟨ao, cap, by rw [List.length_take, Nat.min_eq_left hi], by rw [List.length_take]; omega, h0, fun j u hu => ?_, fun x hx => ho x (List.mem_of_mem_take hx)⟩
  refine hc j u ?_
  have e : tcells xs = tcells (xs.take i) ++ tcells (xs.drop i) := by rw [← tcells_append, List.take_append_drop]
  rw [e, List.getElem?_append_left ((List.getElem?_eq_some_iff.1 hu).1)]
  exact hu
theorem txsE.drop {w : World} {ao : Option Addr} {n cap i : Nat} {xs : List TE} (h : txsE w (.slice ao n cap) xs) (hi : i ≤ n) : txsE w (.slice (if cap = i then ao else ao.map (·.add (i * 6))) (n - i) (cap - i)) (xs.drop i) := by
  obtain ⟨ao', c, e, hm, h0, hc, ho⟩ := h
  cases e
  refine ⟨_, cap - i, by rw [List.length_drop], by rw [List.length_drop]; omega, fun e => ?_, fun j u hu => ?_, fun x hx => ho x (List.mem_of_mem_drop hx)⟩
  · split at e
    · omega
    · cases ao with
      | none => have := h0 rfl; omega
      | some a => cases e
  · have hj := (List.getElem?_eq_some_iff.1 hu).1
    rw [tcells_length, List.length_drop] at hj
    have e : tcells xs = tcells (xs.take i) ++ tcells (xs.drop i) := by rw [← tcells_append, List.take_append_drop]
    have hl : (tcells (xs.take i)).length = i * 6 := by rw [tcells_length, List.length_take, Nat.min_eq_left hi]
    obtain ⟨ad, h1, h2⟩ := hc (i * 6 + j) u (by
      rw [e, List.getElem?_append_right (by omega), hl]
      rw [show i * 6 + j - i * 6 = j by omega]
      exact hu)
    subst h1
    refine ⟨ad.add (i * 6), by rw [if_neg (by omega)]; rfl, ?_⟩
    rw [add_add]
    exact h2
theorem tcells_oneE {w : World} {xs : List TE} (h : ∀ x ∈ xs, opsIn w x.2 x.1.ops) : ∀ u ∈ tcells xs, u.oneCell' = true := tcells_one fun x hx => by
  obtain ⟨ao, cap, e⟩ := (h x hx).slice
  exact ⟨ao, _, cap, e⟩
theorem txsE_none {w : World} {n cap : Nat} {xs : List TE} (h : txsE w (.slice none n cap) xs) : xs = [] ∧ n = 0 ∧ cap = 0 := by
  obtain ⟨ao, c, e, hm, h0, _, _⟩ := h
  cases e
  have := h0 rfl
  have hz : xs.length = 0 := by omega
  exact ⟨List.eq_nil_of_length_eq_zero hz, hz, by omega⟩
/-- Transactions of any slice are appended. -/
theorem append_any {ops : Array Oper} {rest : List Oper} {o : Oper} {a : Act} {w : World} {Q : Exit → Act → World → Prop} (hgd : o.guard = none) (s x : Operand)
    (ho : o.op = .call { callee := .builtin .append, args := #[s, x], argTypes := #[22, 22] }) (B : Nat) (hB : B ≤ w.heap.size) (r : Value) (acc : List TE) (hs : a.eval s = r) (hown : w.ownsRow B 56 6 r acc.length (tcells acc))
    (v : Value) (ys : List TE) (hx : a.eval x = v) (hv : txsE w v ys) (hn : acc.length + ys.length ≤ 1000000)
    (h : ∀ r' w', w'.ownsRow B 56 6 r' (acc ++ ys).length (tcells (acc ++ ys)) → Below B w w' → wpList Tryz.prog ops Q rest (a.put o.dst r') w') : wpList Tryz.prog ops Q (o :: rest) a w := by
  obtain ⟨ao, cap, rfl, hm, h0, hc, hops⟩ := id hv
  cases ao with
  | none =>
    obtain ⟨rfl, _, rfl⟩ := txsE_none hv
    obtain ⟨i0, hi, hz, hz1, hz2⟩ := info26
    refine wpList_append_own_none hgd s x 22 ho B 56 i0 6 Tryz.underlying22 hi r _ _ hs hown hx ?_
    refine h r w ?_ (Below.refl _ _)
    rw [List.append_nil]
    exact hown
  | some ad =>
    refine append_txs hgd s x ho B hB r acc hs hown ad ys cap hx (fun j u hu => ?_) (tcells_oneE hops) hn fun r' w' h1 h2 => h r' w' h1 (own_grown hown hB (Below.refl _ _) h2)
    obtain ⟨ad', e, h3⟩ := hc j u hu
    cases e
    exact h3

theorem own_emptyT (w : World) : (w.alloc (.cells #[] 56)).ownsRow w.heap.size 56 6 (.slice (some ⟨w.heap.size, 0, none⟩) 0 0) ([] : List TE).length (tcells []) :=
  ⟨rfl, Or.inr ⟨w.heap.size, 0, #[], rfl, Nat.le_refl _, heap_alloc_new w _, Nat.le_refl _, by unfold maxLen; omega, rfl, rfl⟩⟩
set_option maxRecDepth 20000 in
theorem tclone_any (v : Value) (xs : List TE) (w : World) (hv : txsE w v xs) (hn : xs.length ≤ 1000000) :
    Calls Tryz.prog 65 #[v] w fun e w' => ∃ r, e = .returned r ∧ w'.ownsRow w.heap.size 56 6 r xs.length (tcells xs) ∧ Below w.heap.size w w' := by
  obtain ⟨ao, c, rfl, hm, h0, _, _⟩ := id hv
  cases ao with
  | none =>
    obtain ⟨rfl, _, rfl⟩ := txsE_none hv
    have heq : ∀ w, (binOp .eql 22 (.slice none 0 0) (.slice none 0 0)).run Tryz.prog w = .ok (.bool true) w := fun w => by kernel_rfl
    go_enter Tryz.func65, Tryz.ntmps65
    go_wp2
    go_ret
    exact ⟨_, rfl, World.ownsRow_nil _ _ _ _, Below.refl _ _⟩
  | some ad =>
    have hv1 := hv.on (below_new w (.cells #[] 56))
    have hB : w.heap.size ≤ (w.alloc (.cells #[] 56)).heap.size := by simp
    have own := own_emptyT w
    have f7 : ([] : List TE).length + xs.length ≤ 1000000 := by simp; omega
    have HL : Hid (txsE (w.alloc (.cells #[] 56)) (.slice (some ad) xs.length c) xs) := hv1
    clear hv hv1 hm h0
    obtain ⟨n, hn0⟩ : ∃ n, n = xs.length := ⟨_, rfl⟩
    have HN : Hid (n = xs.length) := hn0
    rw [← hn0] at HL ⊢
    clear hn0
    have heq : ∀ w, (binOp .eql 22 (.slice (some ad) n c) (.slice none 0 0)).run Tryz.prog w = .ok (.bool false) w := fun w => by kernel_rfl
    go_enter Tryz.func65, Tryz.ntmps65
    go_wp2_with (at_builtin; refine append_any rfl _ _ rfl w.heap.size hB _ [] rfl own _ xs rfl HL.out f7 ?_; intro r3 w4 own3 below3)
    go_ret
    refine ⟨_, rfl, ?_, ((below_new _ _).mono (Nat.le_refl _)).trans below3⟩
    rw [HN.out]
    exact own3

/-- A slice of slices reads as these. -/
def listsIn (w : World) (v : Value) (vs : List Value) : Prop := ∃ b cap, v = .slice (some ⟨b, 0, none⟩) vs.length cap ∧ ∀ k (h : k < vs.length), w.cell? ⟨b, k, none⟩ = some vs[k]
/-- Each of the slices reads as transactions. -/
def txsAll (w : World) (vs : List Value) (dss : List (List TE)) : Prop := vs.length = dss.length ∧ ∀ k (h : k < vs.length) (h' : k < dss.length), txsE w vs[k] dss[k]
/-- The first ones, and how many there are. -/
def front (dss : List (List TE)) (k : Nat) : List TE := (dss.take k).flatten
def sum (dss : List (List TE)) (k : Nat) : Nat := (front dss k).length
theorem sum_zero (dss : List (List TE)) : sum dss 0 = 0 := by simp [sum, front]
theorem front_step (dss : List (List TE)) (k : Nat) (h : k < dss.length) : front dss (k + 1) = front dss k ++ dss[k] := by
  unfold front
  rw [List.take_succ_eq_append_getElem h, List.flatten_append]
  simp only [List.flatten_cons, List.flatten_nil, List.append_nil]
theorem sum_step (dss : List (List TE)) (k : Nat) (h : k < dss.length) : sum dss (k + 1) = sum dss k + (dss[k]).length := by
  unfold sum
  rw [front_step dss k h, List.length_append]
theorem front_all (dss : List (List TE)) : front dss dss.length = dss.flatten := by unfold front; rw [List.take_length]
theorem sum_le (dss : List (List TE)) (k : Nat) : sum dss k ≤ dss.flatten.length := by
  have : dss.flatten = (dss.take k).flatten ++ (dss.drop k).flatten := by rw [← List.flatten_append, List.take_append_drop]
  rw [this]
  simp [sum, front]

end Go.Proofs.YthlhopdlkkeohaaGreatDoor.O
