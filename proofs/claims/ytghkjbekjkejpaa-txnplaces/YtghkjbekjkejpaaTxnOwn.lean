/- Rows of operations, and of transactions, that a call owns: how they read, and how they grow. -/
import Derived.Test.YtghkjbekjkejpaaTxnMem
namespace Go.Proofs.Ytghkjbekjkejpaa.O
open Go.RowKit

theorem own_slice {w : World} {b s n : Nat} {e : TypeId} {v : Value} {xs : List Value} (h : w.ownsRow b e s v n xs) : ∃ ao n c, v = .slice ao n c := by
  rcases h.2 with ⟨rfl, _⟩ | ⟨g, cap, cur, rfl, _⟩
  · exact ⟨_, _, _, rfl⟩
  · exact ⟨_, _, _, rfl⟩
theorem own_set {w : World} {B s n g j : Nat} {e : TypeId} {v : Value} {xs : List Value} (h : w.ownsRow B e s v n xs) (hg : v.ownBlock ≠ some g) (x : Value) : (w.setCell ⟨g, j, none⟩ x).ownsRow B e s v n xs := by
  refine ⟨h.1, ?_⟩
  rcases h.2 with hn | ⟨q, cap, cur, hv, hbq, hq, r⟩
  · exact Or.inl hn
  · refine Or.inr ⟨q, cap, cur, hv, hbq, ?_, r⟩
    have hne : q ≠ g := fun e => hg (by rw [hv, ← e]; rfl)
    exact (Below.heap_setCell w ⟨g, j, none⟩ x q hne).trans hq
theorem add_plus (ad : Addr) (a i : Nat) (hi : 0 < i) : ad.add (a + i) = ⟨(ad.add a).block, (ad.add a).off + i, none⟩ := by
  unfold Addr.add
  rw [if_neg (by omega)]
  by_cases h : a = 0
  · subst h; simp
  · rw [if_neg h]
    simp; omega
/-- A row is not changed where another one grows. -/
theorem own_grown_other {w w1 : World} {B s n : Nat} {e : TypeId} {v : Value} {xs : List Value} {row : Option Nat} (h : w.ownsRow B e s v n xs) (hg : w.grownBy w1 row) (hne : ∀ g, row = some g → v.ownBlock ≠ some g) : w1.ownsRow B e s v n xs := by
  refine ⟨h.1, ?_⟩
  rcases h.2 with hn | ⟨g, cap, cur, hv, hbg, hq, r⟩
  · exact Or.inl hn
  · refine Or.inr ⟨g, cap, cur, hv, hbg, ?_, r⟩
    rw [hg.block g (Array.getElem?_eq_some_iff.1 hq).1 (fun e => hne g e.symm (by rw [hv]; rfl))]
    exact hq
theorem own_types {w : World} {B s n B' s' n' : Nat} {e e' : TypeId} {v v' : Value} {xs xs' : List Value} (h : w.ownsRow B e s v n xs) (h' : w.ownsRow B' e' s' v' n' xs') (he : e ≠ e') : ∀ g, v'.ownBlock = some g → v.ownBlock ≠ some g := by
  intro g hg hg'
  rcases h.2 with ⟨rfl, _⟩ | ⟨k, cap, cur, rfl, _, hk, _⟩
  · cases hg'
  · rcases h'.2 with ⟨rfl, _⟩ | ⟨k', cap', cur', rfl, _, hk', _⟩
    · cases hg
    · have e1 : k = g := Option.some.inj hg'
      have e2 : k' = g := Option.some.inj hg
      subst e1
      subst e2
      rw [hk] at hk'
      have := Option.some.inj hk'
      injection this with _ e3 _
      exact he e3

/-! ### Operations -/
abbrev OE := Os.Op × Value × Value
def ocell (x : OE) : List Value := [.int .i64 x.1.k, x.2.1, .int .i64 x.1.vk, .int .i64 x.1.vn, .string ⟨x.1.vs.toArray⟩, .int .i64 x.1.n, x.2.2]
def ocells (xs : List OE) : List Value := xs.flatMap ocell
theorem ocells_append (a b : List OE) : ocells (a ++ b) = ocells a ++ ocells b := by simp [ocells]
theorem ocells_length : ∀ l : List OE, (ocells l).length = l.length * 7
  | [] => rfl
  | u :: l => by have := ocells_length l; simp [ocells, ocell] at *; omega
theorem ocells_at : ∀ (l : List OE) (k : Nat) (h : k < l.length) (i : Nat) (_ : i < 7), (ocells l)[k * 7 + i]? = (ocell l[k])[i]?
  | u :: l, 0, _, i, hi => by
    have e : ocells (u :: l) = ocell u ++ ocells l := rfl
    rw [e, List.getElem?_append_left (by simp [ocell]; omega)]
    simp
  | u :: l, k + 1, h, i, hi => by
    have := ocells_at l k (by simpa using h) i hi
    have e : ocells (u :: l) = ocell u ++ ocells l := rfl
    rw [e, List.getElem?_append_right (by simp [ocell]; omega)]
    simp only [List.getElem_cons_succ]
    rw [← this]
    congr 1
    simp [ocell]
    omega
theorem slice_one {v : Value} (h : ∃ ao n c, v = .slice ao n c) : v.oneCell' = true := by
  obtain ⟨_, _, _, rfl⟩ := h
  rfl
/-- What each operation's own slices are. -/
def OIn (w : World) (B : Nat) (x : OE) : Prop := w.ownsRow B 9 1 x.2.1 x.1.p.length (U.cellsS x.1.p) ∧ w.ownsRow B 82 3 x.2.2 x.1.l.length (ucells x.1.l)
def opsOwn (w : World) (B : Nat) (v : Value) (os : List Os.Op) : Prop := ∃ xs : List OE, xs.map (·.1) = os ∧ w.ownsRow B 47 7 v xs.length (ocells xs) ∧ ∀ x ∈ xs, OIn w B x
theorem opsOwn_nil (w : World) (B : Nat) : opsOwn w B (.slice none 0 0) [] := ⟨[], rfl, World.ownsRow_nil _ _ _ _, fun x h => by simp at h⟩
theorem ocells_one {w : World} {B : Nat} {xs : List OE} (h : ∀ x ∈ xs, OIn w B x) : ∀ u ∈ ocells xs, u.oneCell' = true := by
  intro u hu
  simp only [ocells, List.mem_flatMap] at hu
  obtain ⟨x, hx, hu⟩ := hu
  obtain ⟨h1, h2⟩ := h x hx
  simp only [ocell, List.mem_cons, List.not_mem_nil, or_false] at hu
  rcases hu with rfl | rfl | rfl | rfl | rfl | rfl | rfl
  · rfl
  · exact slice_one (own_slice h1)
  · rfl
  · rfl
  · rfl
  · rfl
  · exact slice_one (own_slice h2)
theorem opsOwn.map {w w' : World} {B B' : Nat} {v : Value} {os : List Os.Op} (h : opsOwn w B v os) (f : ∀ {e s n v xs}, e ≠ 26 → w.ownsRow B e s v n xs → w'.ownsRow B' e s v n xs) : opsOwn w' B' v os := by
  obtain ⟨xs, h1, h2, h3⟩ := h
  exact ⟨xs, h1, f (by decide) h2, fun x hx => ⟨f (by decide) (h3 x hx).1, f (by decide) (h3 x hx).2⟩⟩
theorem opsOwn.on {w w' : World} {B : Nat} {v : Value} {os : List Os.Op} (h : opsOwn w B v os) (hb : Below w.heap.size w w') : opsOwn w' B v os := h.map fun _ k => own_on k hb
theorem opsOwn.but {w w' : World} {B g : Nat} {v : Value} {os : List Os.Op} (h : opsOwn w B v os) (hb : But g w w') (hg : g < B) : opsOwn w' B v os := h.map fun _ k => own_but k hb hg
theorem opsOwn.low {w : World} {B g j : Nat} {v : Value} {os : List Os.Op} (h : opsOwn w B v os) (hg : g < B) (x : Value) : opsOwn (w.setCell ⟨g, j, none⟩ x) B v os := h.map fun _ k => own_set k (fun q => by have := (k.lt g q).1; omega) x
theorem opsOwn.base {w : World} {B B' : Nat} {v : Value} {os : List Os.Op} (h : opsOwn w B v os) (hb : B' ≤ B) : opsOwn w B' v os := h.map fun _ k => own_base k hb
theorem opsOwn.slice {w : World} {B : Nat} {v : Value} {os : List Os.Op} (h : opsOwn w B v os) : ∃ ao n c, v = .slice ao n c := by
  obtain ⟨xs, _, h2, _⟩ := h
  exact own_slice h2
theorem opsIn_own {w : World} {B : Nat} {v : Value} {os : List Os.Op} (h : opsOwn w B v os) : opsIn w v os := by
  obtain ⟨xs, rfl, h2, h3⟩ := h
  rcases h2.2 with ⟨rfl, h0⟩ | ⟨g, cap, cur, rfl, r⟩
  · obtain rfl : xs = [] := List.eq_nil_of_length_eq_zero h0
    exact opsIn_nil w
  · refine ⟨_, cap, by rw [List.length_map], by rw [List.length_map]; exact r.2.2.1, fun e => by simp at e, fun k hk => ?_⟩
    have hk' : k < xs.length := by simpa using hk
    have hc := fun i (hi : i < 7) (u : Value) (hu : (ocell xs[k])[i]? = some u) => h2.cells rfl (k * 7 + i) u ((ocells_at xs k hk' i hi).trans hu)
    have hx := h3 _ (List.getElem_mem hk')
    refine ⟨_, xs[k].2.1, xs[k].2.2, rfl, ?_, ?_, ?_⟩
    · simp only [List.getElem_map]
      refine ⟨hc 0 (by omega) _ rfl, ?_, ?_, ?_, ?_, ?_, ?_⟩
      · rw [← add_plus _ _ 1 (by omega)]; exact hc 1 (by omega) _ rfl
      · rw [← add_plus _ _ 2 (by omega)]; exact hc 2 (by omega) _ rfl
      · rw [← add_plus _ _ 3 (by omega)]; exact hc 3 (by omega) _ rfl
      · rw [← add_plus _ _ 4 (by omega)]; exact hc 4 (by omega) _ rfl
      · rw [← add_plus _ _ 5 (by omega)]; exact hc 5 (by omega) _ rfl
      · rw [← add_plus _ _ 6 (by omega)]; exact hc 6 (by omega) _ rfl
    · simp only [List.getElem_map]; exact U.strsAt_own hx.1
    · simp only [List.getElem_map]; exact refsIn_own hx.2
theorem info47 : ∃ i0, Try.prog.info? 47 = some i0 ∧ i0.zero = some (opV 0 (.slice none 0 0) 0 0 [] 0 (.slice none 0 0)) ∧ i0.size = 7 ∧ i0.bytes = 96 := info_parts (by kernel_rfl)
theorem new_op (w : World) (x : OE) : ∀ j v, (ocells [x])[j]? = some v → (w.alloc (oO x.1 x.2.1 x.2.2)).cell? ((⟨w.heap.size, 0, none⟩ : Addr).add j) = some v := by
  intro j v hv
  have e : (⟨w.heap.size, 0, none⟩ : Addr).add j = ⟨w.heap.size, j, none⟩ := by unfold Addr.add; split <;> simp_all
  rw [e, cell_of_row _ w.heap.size j _ 47 (0, 0) (heap_alloc_new w _)]
  simpa [ocells, ocell] using hv
/-- One operation is appended to a row that the call owns. -/
theorem append_op {ops : Array Oper} {rest : List Oper} {o : Oper} {a : Act} {w : World} {Q : Exit → Act → World → Prop} (hgd : o.guard = none) (s x : Operand)
    (ho : o.op = .call { callee := .builtin .append, args := #[s, x], argTypes := #[24, 24] }) (B : Nat) (hB : B ≤ w.heap.size) (r : Value) (acc : List OE) (hs : a.eval s = r) (hown : w.ownsRow B 47 7 r acc.length (ocells acc))
    (g : Nat) (y : OE) (hx : a.eval x = .slice (some ⟨g, 0, none⟩) 1 1) (hv : ∀ j v, (ocells [y])[j]? = some v → w.cell? ((⟨g, 0, none⟩ : Addr).add j) = some v) (hone : ∀ u ∈ ocells [y], u.oneCell' = true) (hn : acc.length + 1 ≤ 1000000)
    (h : ∀ r' w', w'.ownsRow B 47 7 r' (acc ++ [y]).length (ocells (acc ++ [y])) → w.grownBy w' r.ownBlock → wpList Try.prog ops Q rest (a.put o.dst r') w') : wpList Try.prog ops Q (o :: rest) a w := by
  obtain ⟨i0, hi, hz, hz1, hz2⟩ := info47
  refine wpList_append_own w hgd s x 24 ho B 47 i0 _ 7 96 Try.underlying24 hi hz hz1 hz2 rfl (by decide) r _ _ hs hown ⟨g, 0, none⟩ 1 1 (ocells [y]) hx (ocells_length [y]) hv hone (by unfold maxLen; omega) (by omega) hB ?_
  intro v' w1 hown' hg _
  refine h v' w1 ?_ hg
  rw [ocells_append, List.length_append]
  exact hown'

/-! ### Transactions -/
abbrev TE := Tx.Txn × Value
def tcell (x : TE) : List Value := [.int .i64 x.1.d.1, .int .i64 x.1.d.2, .int .i64 x.1.u, .int .i64 x.1.t, .bool x.1.thin, x.2]
def tcells (xs : List TE) : List Value := xs.flatMap tcell
theorem tcells_append (a b : List TE) : tcells (a ++ b) = tcells a ++ tcells b := by simp [tcells]
theorem tcells_length : ∀ l : List TE, (tcells l).length = l.length * 6
  | [] => rfl
  | u :: l => by have := tcells_length l; simp [tcells, tcell] at *; omega
theorem tcells_at : ∀ (l : List TE) (k : Nat) (h : k < l.length) (i : Nat) (_ : i < 6), (tcells l)[k * 6 + i]? = (tcell l[k])[i]?
  | u :: l, 0, _, i, hi => by
    have e : tcells (u :: l) = tcell u ++ tcells l := rfl
    rw [e, List.getElem?_append_left (by simp [tcell]; omega)]
    simp
  | u :: l, k + 1, h, i, hi => by
    have := tcells_at l k (by simpa using h) i hi
    have e : tcells (u :: l) = tcell u ++ tcells l := rfl
    rw [e, List.getElem?_append_right (by simp [tcell]; omega)]
    simp only [List.getElem_cons_succ]
    rw [← this]
    congr 1
    simp [tcell]
    omega
theorem tcells_one {xs : List TE} (h : ∀ x ∈ xs, ∃ ao n c, x.2 = .slice ao n c) : ∀ u ∈ tcells xs, u.oneCell' = true := by
  intro u hu
  simp only [tcells, List.mem_flatMap] at hu
  obtain ⟨x, hx, hu⟩ := hu
  simp only [tcell, List.mem_cons, List.not_mem_nil, or_false] at hu
  rcases hu with rfl | rfl | rfl | rfl | rfl | rfl
  · rfl
  · rfl
  · rfl
  · rfl
  · rfl
  · exact slice_one (h x hx)
/-- A row of transactions that reads as these, their operations as they are told. -/
theorem txsIn_row {w : World} {B : Nat} {v : Value} {xs : List TE} (h2 : w.ownsRow B 26 6 v xs.length (tcells xs)) (h3 : ∀ x ∈ xs, opsIn w x.2 x.1.ops) : txsIn w v (xs.map (·.1)) := by
  rcases h2.2 with ⟨rfl, h0⟩ | ⟨g, cap, cur, rfl, r⟩
  · obtain rfl : xs = [] := List.eq_nil_of_length_eq_zero h0
    exact txsIn_nil w
  · refine ⟨_, cap, by rw [List.length_map], by rw [List.length_map]; exact r.2.2.1, fun e => by simp at e, fun k hk => ?_⟩
    have hk' : k < xs.length := by simpa using hk
    have hc := fun i (hi : i < 6) (u : Value) (hu : (tcell xs[k])[i]? = some u) => h2.cells rfl (k * 6 + i) u ((tcells_at xs k hk' i hi).trans hu)
    have hx := h3 _ (List.getElem_mem hk')
    refine ⟨_, xs[k].2, rfl, ?_, ?_⟩
    · simp only [List.getElem_map]
      refine ⟨hc 0 (by omega) _ rfl, ?_, ?_, ?_, ?_, ?_⟩
      · rw [← add_plus _ _ 1 (by omega)]; exact hc 1 (by omega) _ rfl
      · rw [← add_plus _ _ 2 (by omega)]; exact hc 2 (by omega) _ rfl
      · rw [← add_plus _ _ 3 (by omega)]; exact hc 3 (by omega) _ rfl
      · rw [← add_plus _ _ 4 (by omega)]; exact hc 4 (by omega) _ rfl
      · rw [← add_plus _ _ 5 (by omega)]; exact hc 5 (by omega) _ rfl
    · simp only [List.getElem_map]; exact hx
theorem info26 : ∃ i0, Try.prog.info? 26 = some i0 ∧ i0.zero = some (.agg #[.int .i64 0, .int .i64 0, .int .i64 0, .int .i64 0, .bool false, .slice none 0 0]) ∧ i0.size = 6 ∧ i0.bytes = 64 := info_parts (by kernel_rfl)
theorem new_tx (w : World) (x : TE) : ∀ j v, (tcells [x])[j]? = some v → (w.alloc (txO x.1 x.2)).cell? ((⟨w.heap.size, 0, none⟩ : Addr).add j) = some v := by
  intro j v hv
  have e : (⟨w.heap.size, 0, none⟩ : Addr).add j = ⟨w.heap.size, j, none⟩ := by unfold Addr.add; split <;> simp_all
  rw [e, cell_of_row _ w.heap.size j _ 26 (0, 0) (heap_alloc_new w _)]
  simpa [tcells, tcell] using hv
/-- Transactions are appended to a row that the call owns. -/
theorem append_txs {ops : Array Oper} {rest : List Oper} {o : Oper} {a : Act} {w : World} {Q : Exit → Act → World → Prop} (hgd : o.guard = none) (s x : Operand)
    (ho : o.op = .call { callee := .builtin .append, args := #[s, x], argTypes := #[35, 35] }) (B : Nat) (hB : B ≤ w.heap.size) (r : Value) (acc : List TE) (hs : a.eval s = r) (hown : w.ownsRow B 26 6 r acc.length (tcells acc))
    (ad : Addr) (ys : List TE) (c : Nat) (hx : a.eval x = .slice (some ad) ys.length c) (hv : ∀ j v, (tcells ys)[j]? = some v → w.cell? (ad.add j) = some v) (hone : ∀ u ∈ tcells ys, u.oneCell' = true) (hn : acc.length + ys.length ≤ 1000000)
    (h : ∀ r' w', w'.ownsRow B 26 6 r' (acc ++ ys).length (tcells (acc ++ ys)) → w.grownBy w' r.ownBlock → wpList Try.prog ops Q rest (a.put o.dst r') w') : wpList Try.prog ops Q (o :: rest) a w := by
  obtain ⟨i0, hi, hz, hz1, hz2⟩ := info26
  refine wpList_append_own w hgd s x 35 ho B 26 i0 _ 6 64 Try.underlying35 hi hz hz1 hz2 rfl (by decide) r _ _ hs hown ad ys.length c (tcells ys) hx (tcells_length ys) hv hone (by unfold maxLen; omega) (by omega) hB ?_
  intro v' w1 hown' hg _
  refine h v' w1 ?_ hg
  rw [tcells_append, List.length_append]
  exact hown'
end Go.Proofs.Ytghkjbekjkejpaa.O
