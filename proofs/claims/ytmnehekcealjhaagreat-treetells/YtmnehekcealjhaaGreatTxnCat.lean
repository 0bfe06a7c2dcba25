/- The walks of slices.Clone, Grow (of nothing) and Concat, at transactions. -/
import Derived.Test.YtmnehekcealjhaaGreatTxnsAll
import Derived.Lib.AppendZerosOnto
import Derived.Laws.AppendOwnNone
import Derived.OwnWalk
namespace Go.Proofs.YtmnehekcealjhaaGreat.O
open Go.RowKit

/-- A slice reads as these transactions, their operations' slices written out. -/
def txsE (w : World) (v : Value) (xs : List TE) : Prop := ∃ ao cap, v = .slice ao xs.length cap ∧ xs.length ≤ cap ∧ (ao = none → cap = 0) ∧ (∀ j u, (tcells xs)[j]? = some u → ∃ ad, ao = some ad ∧ w.cell? (ad.add j) = some u) ∧ ∀ x ∈ xs, opsIn w x.2 x.1.ops
theorem txsE.on {w w' : World} {v : Value} {xs : List TE} (h : txsE w v xs) (hb : Below w.heap.size w w') : txsE w' v xs := by
  obtain ⟨ao, cap, hv, hm, h0, hc, ho⟩ := h
  refine ⟨ao, cap, hv, hm, h0, fun j u hu => ?_, fun x hx => (ho x hx).on hb⟩
  obtain ⟨ad, h1, h2⟩ := hc j u hu
  exact ⟨ad, h1, keep_cell hb h2⟩
theorem tcells_get (l : List TE) (j : Nat) (u : Value) (h : (tcells l)[j]? = some u) : ∃ k i, ∃ hk : k < l.length, i < 6 ∧ j = k * 6 + i ∧ (tcell l[k])[i]? = some u := by
  have hj : j < (tcells l).length := (List.getElem?_eq_some_iff.1 h).1
  rw [tcells_length] at hj
  have hk : j / 6 < l.length := by omega
  have he : j = j / 6 * 6 + j % 6 := by omega
  refine ⟨j / 6, j % 6, hk, by omega, he, ?_⟩
  rw [← tcells_at l (j / 6) hk (j % 6) (by omega), ← he, h]
theorem txsE_of {w : World} {v : Value} {l : List Tx.Txn} (h : txsIn w v l) : ∃ xs : List TE, xs.map (·.1) = l ∧ txsE w v xs := by
  obtain ⟨ao, cap, hv, hm, h0, hc⟩ := h
  have each : ∀ i : Fin l.length, ∃ ov, ∃ ad, ao = some ad ∧ TcAt w (ad.add (i.1 * 6)) l[i.1] ov ∧ opsIn w ov l[i.1].ops := fun i => by
    obtain ⟨ad, ov, h1, h2, h3⟩ := hc i.1 i.2
    exact ⟨ov, ad, h1, h2, h3⟩
  refine ⟨List.ofFn fun i : Fin l.length => (l[i.1], (each i).choose), ?_, ao, cap, ?_, ?_, h0, fun j u hu => ?_, fun x hx => ?_⟩
  · rw [List.map_ofFn]
    exact List.ofFn_getElem
  · rw [List.length_ofFn]; exact hv
  · rw [List.length_ofFn]; exact hm
  · obtain ⟨k, i, hk, hi, rfl, he⟩ := tcells_get _ j u hu
    rw [List.getElem_ofFn] at he
    obtain ⟨ad, h1, ⟨g0, g1, g2, g3, g4, g5⟩, _⟩ := (each ⟨k, by simpa using hk⟩).choose_spec
    refine ⟨ad, h1, ?_⟩
    match i, hi, he with
    | 0, _, he => rw [Nat.add_zero, g0]; exact he
    | 1, _, he => rw [add_plus _ _ 1 (by omega), g1]; exact he
    | 2, _, he => rw [add_plus _ _ 2 (by omega), g2]; exact he
    | 3, _, he => rw [add_plus _ _ 3 (by omega), g3]; exact he
    | 4, _, he => rw [add_plus _ _ 4 (by omega), g4]; exact he
    | 5, _, he => rw [add_plus _ _ 5 (by omega), g5]; exact he
  · obtain ⟨i, rfl⟩ := List.mem_ofFn.1 hx
    obtain ⟨ad, h1, _, h3⟩ := (each i).choose_spec
    exact h3
theorem txsE_own {w : World} {B : Nat} {v : Value} {xs : List TE} (h : w.ownsRow B 57 6 v xs.length (tcells xs)) (ho : ∀ x ∈ xs, opsIn w x.2 x.1.ops) : txsIn w v (xs.map (·.1)) := txsIn_row h ho
theorem txsE.take {w : World} {ao : Option Addr} {n cap i : Nat} {xs : List TE} (h : txsE w (.slice ao n cap) xs) (hi : i ≤ n) : txsE w (.slice ao i cap) (xs.take i) := by
  obtain ⟨ao', c, e, hm, h0, hc, ho⟩ := h
  cases e
  refine ⟨ao, cap, by rw [List.length_take, Nat.min_eq_left hi], by rw [List.length_take]; omega, h0, fun j u hu => ?_, fun x hx => ho x (List.mem_of_mem_take hx)⟩
  refine hc j u ?_
  have e : tcells xs = tcells (xs.take i) ++ tcells (xs.drop i) := by rw [← tcells_append, List.take_append_drop]
  rw [e, List.getElem?_append_left ((List.getElem?_eq_some_iff.1 hu).1)]
  exact hu
theorem txsE.drop {w : World} {ao : Option Addr} {n cap i : Nat} {xs : List TE} (h : txsE w (.slice ao n cap) xs) (hi : i ≤ n) : txsE w (.slice (if cap = i then ao else ao.map (·.add (i * 6))) (n - i) (cap - i)) (xs.drop i) := by
  obtain ⟨ao', c, e, hm, h0, hc, ho⟩ := h
  cases e
  refine ⟨_, cap - i, by rw [List.length_drop], by rw [List.length_drop]; omega, fun e => ?_, fun j u hu => ?_, fun x hx => ho x (List.mem_of_mem_drop hx)⟩
  · split at e
    · omega
    · cases ao with
      | none => have := h0 rfl; omega
      | some a => cases e
  · have hj := (List.getElem?_eq_some_iff.1 hu).1
    rw [tcells_length, List.length_drop] at hj
    have e : tcells xs = tcells (xs.take i) ++ tcells (xs.drop i) := by rw [← tcells_append, List.take_append_drop]
    have hl : (tcells (xs.take i)).length = i * 6 := by rw [tcells_length, List.length_take, Nat.min_eq_left hi]
    obtain ⟨ad, h1, h2⟩ := hc (i * 6 + j) u (by
      rw [e, List.getElem?_append_right (by omega), hl]
      rw [show i * 6 + j - i * 6 = j by omega]
      exact hu)
    subst h1
    refine ⟨ad.add (i * 6), by rw [if_neg (by omega)]; rfl, ?_⟩
    rw [add_add]
    exact h2
theorem tcells_oneE {w : World} {xs : List TE} (h : ∀ x ∈ xs, opsIn w x.2 x.1.ops) : ∀ u ∈ tcells xs, u.oneCell' = true := tcells_one fun x hx => by
  obtain ⟨ao, cap, e⟩ := (h x hx).slice
  exact ⟨ao, _, cap, e⟩
theorem txsE_none {w : World} {n cap : Nat} {xs : List TE} (h : txsE w (.slice none n cap) xs) : xs = [] ∧ n = 0 ∧ cap = 0 := by
  obtain ⟨ao, c, e, hm, h0, _, _⟩ := h
  cases e
  have := h0 rfl
  have hz : xs.length = 0 := by omega
  exact ⟨List.eq_nil_of_length_eq_zero hz, hz, by omega⟩
/-- Transactions of any slice are appended. -/
theorem append_any {ops : Array Oper} {rest : List Oper} {o : Oper} {a : Act} {w : World} {Q : Exit → Act → World → Prop} (hgd : o.guard = none) (s x : Operand)
    (ho : o.op = .call { callee := .builtin .append, args := #[s, x], argTypes := #[22, 22] }) (B : Nat) (hB : B ≤ w.heap.size) (r : Value) (acc : List TE) (hs : a.eval s = r) (hown : w.ownsRow B 57 6 r acc.length (tcells acc))
    (v : Value) (ys : List TE) (hx : a.eval x = v) (hv : txsE w v ys) (hn : acc.length + ys.length ≤ 1000000)
    (h : ∀ r' w', w'.ownsRow B 57 6 r' (acc ++ ys).length (tcells (acc ++ ys)) → Below B w w' → wpList Tryz.prog ops Q rest (a.put o.dst r') w') : wpList Tryz.prog ops Q (o :: rest) a w := by
  obtain ⟨ao, cap, rfl, hm, h0, hc, hops⟩ := id hv
  cases ao with
  | none =>
    obtain ⟨rfl, _, rfl⟩ := txsE_none hv
    obtain ⟨i0, hi, hz, hz1, hz2⟩ := info26
    refine wpList_append_own_none hgd s x 22 ho B 57 i0 6 Tryz.underlying22 hi r _ _ hs hown hx ?_
    refine h r w ?_ (Below.refl _ _)
    rw [List.append_nil]
    exact hown
  | some ad =>
    refine append_txs hgd s x ho B hB r acc hs hown ad ys cap hx (fun j u hu => ?_) (tcells_oneE hops) hn fun r' w' h1 h2 => h r' w' h1 (own_grown hown hB (Below.refl _ _) h2)
    obtain ⟨ad', e, h3⟩ := hc j u hu
    cases e
    exact h3

theorem own_emptyT (w : World) : (w.alloc (.cells #[] 57)).ownsRow w.heap.size 57 6 (.slice (some ⟨w.heap.size, 0, none⟩) 0 0) ([] : List TE).length (tcells []) :=
  ⟨rfl, Or.inr ⟨w.heap.size, 0, #[], rfl, Nat.le_refl _, heap_alloc_new w _, Nat.le_refl _, by unfold maxLen; omega, rfl, rfl⟩⟩
set_option maxRecDepth 20000 in
theorem tclone_any (v : Value) (xs : List TE) (w : World) (hv : txsE w v xs) (hn : xs.length ≤ 1000000) :
    Calls Tryz.prog 52 #[v] w fun e w' => ∃ r, e = .returned r ∧ w'.ownsRow w.heap.size 57 6 r xs.length (tcells xs) ∧ Below w.heap.size w w' := by
  obtain ⟨ao, c, rfl, hm, h0, _, _⟩ := id hv
  cases ao with
  | none =>
    obtain ⟨rfl, _, rfl⟩ := txsE_none hv
    have heq : ∀ w, (binOp .eql 22 (.slice none 0 0) (.slice none 0 0)).run Tryz.prog w = .ok (.bool true) w := fun w => by kernel_rfl
    go_enter Tryz.func52, Tryz.ntmps52
    go_wp2
    go_ret
    exact ⟨_, rfl, World.ownsRow_nil _ _ _ _, Below.refl _ _⟩
  | some ad =>
    have hv1 := hv.on (below_new w (.cells #[] 57))
    have hB : w.heap.size ≤ (w.alloc (.cells #[] 57)).heap.size := by simp
    have own := own_emptyT w
    have f7 : ([] : List TE).length + xs.length ≤ 1000000 := by simp; omega
    have HL : Hid (txsE (w.alloc (.cells #[] 57)) (.slice (some ad) xs.length c) xs) := hv1
    clear hv hv1 hm h0
    obtain ⟨n, hn0⟩ : ∃ n, n = xs.length := ⟨_, rfl⟩
    have HN : Hid (n = xs.length) := hn0
    rw [← hn0] at HL ⊢
    clear hn0
    have heq : ∀ w, (binOp .eql 22 (.slice (some ad) n c) (.slice none 0 0)).run Tryz.prog w = .ok (.bool false) w := fun w => by kernel_rfl
    go_enter Tryz.func52, Tryz.ntmps52
    go_wp2_with (at_builtin; refine append_any rfl _ _ rfl w.heap.size hB _ [] rfl own _ xs rfl HL.out f7 ?_; intro r3 w4 own3 below3)
    go_ret
    refine ⟨_, rfl, ?_, ((below_new _ _).mono (Nat.le_refl _)).trans below3⟩
    rw [HN.out]
    exact own3

/-- A slice of slices reads as these. -/
def listsIn (w : World) (v : Value) (vs : List Value) : Prop := ∃ b cap, v = .slice (some ⟨b, 0, none⟩) vs.length cap ∧ ∀ k (h : k < vs.length), w.cell? ⟨b, k, none⟩ = some vs[k]
/-- Each of the slices reads as transactions. -/
def txsAll (w : World) (vs : List Value) (dss : List (List TE)) : Prop := vs.length = dss.length ∧ ∀ k (h : k < vs.length) (h' : k < dss.length), txsE w vs[k] dss[k]
/-- The first ones, and how many there are. -/
def front (dss : List (List TE)) (k : Nat) : List TE := (dss.take k).flatten
def sum (dss : List (List TE)) (k : Nat) : Nat := (front dss k).length
theorem sum_zero (dss : List (List TE)) : sum dss 0 = 0 := by simp [sum, front]
theorem front_step (dss : List (List TE)) (k : Nat) (h : k < dss.length) : front dss (k + 1) = front dss k ++ dss[k] := by
  unfold front
  rw [List.take_succ_eq_append_getElem h, List.flatten_append]
  simp only [List.flatten_cons, List.flatten_nil, List.append_nil]
theorem sum_step (dss : List (List TE)) (k : Nat) (h : k < dss.length) : sum dss (k + 1) = sum dss k + (dss[k]).length := by
  unfold sum
  rw [front_step dss k h, List.length_append]
theorem front_all (dss : List (List TE)) : front dss dss.length = dss.flatten := by unfold front; rw [List.take_length]
theorem sum_le (dss : List (List TE)) (k : Nat) : sum dss k ≤ dss.flatten.length := by
  have : dss.flatten = (dss.take k).flatten ++ (dss.drop k).flatten := by rw [← List.flatten_append, List.take_append_drop]
  rw [this]
  simp [sum, front]

end Go.Proofs.YtmnehekcealjhaaGreat.O
