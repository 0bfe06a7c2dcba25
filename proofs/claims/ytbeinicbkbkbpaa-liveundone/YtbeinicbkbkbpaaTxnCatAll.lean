/- The walks of slices.Clone, Grow (of nothing) and Concat, at transactions · The walks of Put of transactions, both sides, and of the document's Find. -/
import Derived.Test.YtbeinicbkbkbpaaTxnsAll
import Derived.Lib.AppendZerosOnto
import Derived.Laws.AppendOwnNone
import Derived.OwnWalk
import Derived.Test.YtbeinicbkbkbpaaTxnCompAll
/- The walks of slices.Clone, Grow (of nothing) and Concat, at transactions. -/
namespace Go.Proofs.Ytbeinicbkbkbpaa.O
open Go.RowKit

/-- A slice reads as these transactions, their operations' slices written out. -/
def txsE (w : World) (v : Value) (xs : List TE) : Prop := ∃ ao cap, v = .slice ao xs.length cap ∧ xs.length ≤ cap ∧ (ao = none → cap = 0) ∧ (∀ j u, (tcells xs)[j]? = some u → ∃ ad, ao = some ad ∧ w.cell? (ad.add j) = some u) ∧ ∀ x ∈ xs, opsIn w x.2 x.1.ops
theorem txsE.on {w w' : World} {v : Value} {xs : List TE} (h : txsE w v xs) (hb : Below w.heap.size w w') : txsE w' v xs := by
  obtain ⟨ao, cap, hv, hm, h0, hc, ho⟩ := h
  refine ⟨ao, cap, hv, hm, h0, fun j u hu => ?_, fun x hx => (ho x hx).on hb⟩
  obtain ⟨ad, h1, h2⟩ := hc j u hu
  exact ⟨ad, h1, keep_cell hb h2⟩
theorem tcells_get (l : List TE) (j : Nat) (u : Value) (h : (tcells l)[j]? = some u) : ∃ k i, ∃ hk : k < l.length, i < 6 ∧ j = k * 6 + i ∧ (tcell l[k])[i]? = some u := by
  have hj : j < (tcells l).length := (List.getElem?_eq_some_iff.1 h).1
  rw [tcells_length] at hj
  have hk : j / 6 < l.length := by omega
  have he : j = j / 6 * 6 + j % 6 := by omega
  refine ⟨j / 6, j % 6, hk, by omega, he, ?_⟩
  rw [← tcells_at l (j / 6) hk (j % 6) (by omega), ← he, h]
theorem txsE_of {w : World} {v : Value} {l : List Tx.Txn} (h : txsIn w v l) : ∃ xs : List TE, xs.map (·.1) = l ∧ txsE w v xs := by
  obtain ⟨ao, cap, hv, hm, h0, hc⟩ := h
  have each : ∀ i : Fin l.length, ∃ ov, ∃ ad, ao = some ad ∧ TcAt w (ad.add (i.1 * 6)) l[i.1] ov ∧ opsIn w ov l[i.1].ops := fun i => by
    obtain ⟨ad, ov, h1, h2, h3⟩ := hc i.1 i.2
    exact ⟨ov, ad, h1, h2, h3⟩
  refine ⟨List.ofFn fun i : Fin l.length => (l[i.1], (each i).choose), ?_, ao, cap, ?_, ?_, h0, fun j u hu => ?_, fun x hx => ?_⟩
  · rw [List.map_ofFn]
    exact List.ofFn_getElem
  · rw [List.length_ofFn]; exact hv
  · rw [List.length_ofFn]; exact hm
  · obtain ⟨k, i, hk, hi, rfl, he⟩ := tcells_get _ j u hu
    rw [List.getElem_ofFn] at he
    obtain ⟨ad, h1, ⟨g0, g1, g2, g3, g4, g5⟩, _⟩ := (each ⟨k, by simpa using hk⟩).choose_spec
    refine ⟨ad, h1, ?_⟩
    match i, hi, he with
    | 0, _, he => rw [Nat.add_zero, g0]; exact he
    | 1, _, he => rw [add_plus _ _ 1 (by omega), g1]; exact he
    | 2, _, he => rw [add_plus _ _ 2 (by omega), g2]; exact he
    | 3, _, he => rw [add_plus _ _ 3 (by omega), g3]; exact he
    | 4, _, he => rw [add_plus _ _ 4 (by omega), g4]; exact he
    | 5, _, he => rw [add_plus _ _ 5 (by omega), g5]; exact he
  · obtain ⟨i, rfl⟩ := List.mem_ofFn.1 hx
    obtain ⟨ad, h1, _, h3⟩ := (each i).choose_spec
    exact h3
theorem txsE_own {w : World} {B : Nat} {v : Value} {xs : List TE} (h : w.ownsRow B 48 6 v xs.length (tcells xs)) (ho : ∀ x ∈ xs, opsIn w x.2 x.1.ops) : txsIn w v (xs.map (·.1)) := txsIn_row h ho
theorem txsE.take {w : World} {ao : Option Addr} {n cap i : Nat} {xs : List TE} (h : txsE w (.slice ao n cap) xs) (hi : i ≤ n) : txsE w (.slice ao i cap) (xs.take i) := by
  obtain ⟨ao', c, e, hm, h0, hc, ho⟩ := h
  cases e
  refine ⟨ao, cap, by rw [List.length_take, Nat.min_eq_left hi], by rw [List.length_take]; omega, h0, fun j u hu => ?_, fun x hx => ho x (List.mem_of_mem_take hx)⟩
  refine hc j u ?_
  have e : tcells xs = tcells (xs.take i) ++ tcells (xs.drop i) := by rw [← tcells_append, List.take_append_drop]
  rw [e, List.getElem?_append_left ((List.getElem?_eq_some_iff.1 hu).1)]
  exact hu
theorem txsE.drop {w : World} {ao : Option Addr} {n cap i : Nat} {xs : List TE} (h : txsE w (.slice ao n cap) xs) (hi : i ≤ n) : txsE w (.slice (if cap = i then ao else ao.map (·.add (i * 6))) (n - i) (cap - i)) (xs.drop i) := by
  obtain ⟨ao', c, e, hm, h0, hc, ho⟩ := h
  cases e
  refine ⟨_, cap - i, by rw [List.length_drop], by rw [List.length_drop]; omega, fun e => ?_, fun j u hu => ?_, fun x hx => ho x (List.mem_of_mem_drop hx)⟩
  · split at e
    · omega
    · cases ao with
      | none => have := h0 rfl; omega
      | some a => cases e
  · have hj := (List.getElem?_eq_some_iff.1 hu).1
    rw [tcells_length, List.length_drop] at hj
    have e : tcells xs = tcells (xs.take i) ++ tcells (xs.drop i) := by rw [← tcells_append, List.take_append_drop]
    have hl : (tcells (xs.take i)).length = i * 6 := by rw [tcells_length, List.length_take, Nat.min_eq_left hi]
    obtain ⟨ad, h1, h2⟩ := hc (i * 6 + j) u (by
      rw [e, List.getElem?_append_right (by omega), hl]
      rw [show i * 6 + j - i * 6 = j by omega]
      exact hu)
    subst h1
    refine ⟨ad.add (i * 6), by rw [if_neg (by omega)]; rfl, ?_⟩
    rw [add_add]
    exact h2
theorem tcells_oneE {w : World} {xs : List TE} (h : ∀ x ∈ xs, opsIn w x.2 x.1.ops) : ∀ u ∈ tcells xs, u.oneCell' = true := tcells_one fun x hx => by
  obtain ⟨ao, cap, e⟩ := (h x hx).slice
  exact ⟨ao, _, cap, e⟩
theorem txsE_none {w : World} {n cap : Nat} {xs : List TE} (h : txsE w (.slice none n cap) xs) : xs = [] ∧ n = 0 ∧ cap = 0 := by
  obtain ⟨ao, c, e, hm, h0, _, _⟩ := h
  cases e
  have := h0 rfl
  have hz : xs.length = 0 := by omega
  exact ⟨List.eq_nil_of_length_eq_zero hz, hz, by omega⟩
/-- Transactions of any slice are appended. -/
theorem append_any {ops : Array Oper} {rest : List Oper} {o : Oper} {a : Act} {w : World} {Q : Exit → Act → World → Prop} (hgd : o.guard = none) (s x : Operand)
    (ho : o.op = .call { callee := .builtin .append, args := #[s, x], argTypes := #[22, 22] }) (B : Nat) (hB : B ≤ w.heap.size) (r : Value) (acc : List TE) (hs : a.eval s = r) (hown : w.ownsRow B 48 6 r acc.length (tcells acc))
    (v : Value) (ys : List TE) (hx : a.eval x = v) (hv : txsE w v ys) (hn : acc.length + ys.length ≤ 1000000)
    (h : ∀ r' w', w'.ownsRow B 48 6 r' (acc ++ ys).length (tcells (acc ++ ys)) → Below B w w' → wpList Try.prog ops Q rest (a.put o.dst r') w') : wpList Try.prog ops Q (o :: rest) a w := by
  obtain ⟨ao, cap, rfl, hm, h0, hc, hops⟩ := id hv
  cases ao with
  | none =>
    obtain ⟨rfl, _, rfl⟩ := txsE_none hv
    obtain ⟨i0, hi, hz, hz1, hz2⟩ := info26
    refine wpList_append_own_none hgd s x 22 ho B 48 i0 6 Try.underlying22 hi r _ _ hs hown hx ?_
    refine h r w ?_ (Below.refl _ _)
    rw [List.append_nil]
    exact hown
  | some ad =>
    refine append_txs hgd s x ho B hB r acc hs hown ad ys cap hx (fun j u hu => ?_) (tcells_oneE hops) hn fun r' w' h1 h2 => h r' w' h1 (own_grown hown hB (Below.refl _ _) h2)
    obtain ⟨ad', e, h3⟩ := hc j u hu
    cases e
    exact h3

theorem own_emptyT (w : World) : (w.alloc (.cells #[] 48)).ownsRow w.heap.size 48 6 (.slice (some ⟨w.heap.size, 0, none⟩) 0 0) ([] : List TE).length (tcells []) :=
  ⟨rfl, Or.inr ⟨w.heap.size, 0, #[], rfl, Nat.le_refl _, heap_alloc_new w _, Nat.le_refl _, by unfold maxLen; omega, rfl, rfl⟩⟩
set_option maxRecDepth 20000 in
theorem tclone_any (v : Value) (xs : List TE) (w : World) (hv : txsE w v xs) (hn : xs.length ≤ 1000000) :
    Calls Try.prog 60 #[v] w fun e w' => ∃ r, e = .returned r ∧ w'.ownsRow w.heap.size 48 6 r xs.length (tcells xs) ∧ Below w.heap.size w w' := by
  obtain ⟨ao, c, rfl, hm, h0, _, _⟩ := id hv
  cases ao with
  | none =>
    obtain ⟨rfl, _, rfl⟩ := txsE_none hv
    have heq : ∀ w, (binOp .eql 22 (.slice none 0 0) (.slice none 0 0)).run Try.prog w = .ok (.bool true) w := fun w => by kernel_rfl
    go_enter Try.func60, Try.ntmps60
    go_wp2
    go_ret
    exact ⟨_, rfl, World.ownsRow_nil _ _ _ _, Below.refl _ _⟩
  | some ad =>
    have hv1 := hv.on (below_new w (.cells #[] 48))
    have hB : w.heap.size ≤ (w.alloc (.cells #[] 48)).heap.size := by simp
    have own := own_emptyT w
    have f7 : ([] : List TE).length + xs.length ≤ 1000000 := by simp; omega
    have HL : Hid (txsE (w.alloc (.cells #[] 48)) (.slice (some ad) xs.length c) xs) := hv1
    clear hv hv1 hm h0
    obtain ⟨n, hn0⟩ : ∃ n, n = xs.length := ⟨_, rfl⟩
    have HN : Hid (n = xs.length) := hn0
    rw [← hn0] at HL ⊢
    clear hn0
    have heq : ∀ w, (binOp .eql 22 (.slice (some ad) n c) (.slice none 0 0)).run Try.prog w = .ok (.bool false) w := fun w => by kernel_rfl
    go_enter Try.func60, Try.ntmps60
    go_wp2_with (at_builtin; refine append_any rfl _ _ rfl w.heap.size hB _ [] rfl own _ xs rfl HL.out f7 ?_; intro r3 w4 own3 below3)
    go_ret
    refine ⟨_, rfl, ?_, ((below_new _ _).mono (Nat.le_refl _)).trans below3⟩
    rw [HN.out]
    exact own3

set_option maxRecDepth 20000 in
set_option maxHeartbeats 1000000 in
theorem tgrow_nil (n : Nat) (hn : n ≤ 1000000) (w : World) :
    Calls Try.prog 92 #[.slice none 0 0, .int .i64 (n : Int)] w fun e w' => ∃ v, e = .returned v ∧ w'.ownsRow w.heap.size 48 6 v 0 [] ∧ Below w.heap.size w w' := by
  have h1 : ¬ ((n : Int) < 0) := by omega
  by_cases h0 : n = 0
  · subst h0
    go_enter Try.func92, Try.ntmps92
    go_wp2
    go_ret
    exact ⟨_, rfl, World.ownsRow_nil _ _ _ _, Below.refl _ _⟩
  · obtain ⟨i0, hi, hz, hs, hby⟩ := info26
    have h2 : 0 < (n : Int) := by omega
    have hold : (Builtin.firstCells i0.size 0 (.slice none 0 0)).run Try.prog w.drew = .ok #[] w.drew := run_firstCells_none w.drew i0.size 0 0 0
    have hrz : ∀ ty, (Builtin.append_ #[22, 3] ty #[.slice none 0 0, .int .i64 (n : Int)]).run Try.prog w =
        .ok (.slice (some ⟨w.heap.size, 0, none⟩) n (grownCap w n 0 48)) (w.drew.alloc (.cells (#[] ++ Builtin.zeroCells #[.int .i64 0, .int .i64 0, .int .i64 0, .int .i64 0, .bool false, .slice none 0 0] n ++ Builtin.zeroCells #[.int .i64 0, .int .i64 0, .int .i64 0, .int .i64 0, .bool false, .slice none 0 0] (grownCap w n 0 48 - n)) 48)) := fun ty => by
      have h := Lib.run_append_grow_zeros w 22 3 ty 48 i0 _ .i64 .i64 Try.underlying22 Try.underlying3 hi hz none 0 0 [] hold n (by omega) (by omega) (by omega) (by omega) (by rw [hby]; omega) (by
        rw [Nat.zero_add]; exact growslice_fits (by omega) (by rw [hby]; omega))
      rw [Nat.zero_add] at h
      exact h
    have hGn : n ≤ grownCap w n 0 48 := grownCap_ge w _ _ _
    have hG63 := grownCap_le_maxLen w n 0 48 (by unfold maxLen; omega)
    generalize grownCap w n 0 48 = G at *
    have hG64 : G ≤ 9223372036854775807 := by unfold maxLen at hG63; omega
    clear hold
    go_enter Try.func92, Try.ntmps92
    go_wp2_with (at_builtin; refine Lib.wpList_append_run _ rfl _ _ _ _ rfl _ _ rfl rfl _ _ (hrz _) ?_)
    go_ret
    refine ⟨_, rfl, World.ownsRow_made w.drew _ G (Nat.le_refl _) hG63 ?_, ((Below.refl _ _).drew).alloc (Nat.le_refl _) _⟩
    simp [Builtin.zeroCells]
    omega

/-- A slice of slices reads as these. -/
def listsIn (w : World) (v : Value) (vs : List Value) : Prop := ∃ b cap, v = .slice (some ⟨b, 0, none⟩) vs.length cap ∧ ∀ k (h : k < vs.length), w.cell? ⟨b, k, none⟩ = some vs[k]
/-- Each of the slices reads as transactions. -/
def txsAll (w : World) (vs : List Value) (dss : List (List TE)) : Prop := vs.length = dss.length ∧ ∀ k (h : k < vs.length) (h' : k < dss.length), txsE w vs[k] dss[k]
/-- The first ones, and how many there are. -/
def front (dss : List (List TE)) (k : Nat) : List TE := (dss.take k).flatten
def sum (dss : List (List TE)) (k : Nat) : Nat := (front dss k).length
theorem sum_zero (dss : List (List TE)) : sum dss 0 = 0 := by simp [sum, front]
theorem front_step (dss : List (List TE)) (k : Nat) (h : k < dss.length) : front dss (k + 1) = front dss k ++ dss[k] := by
  unfold front
  rw [List.take_succ_eq_append_getElem h, List.flatten_append]
  simp only [List.flatten_cons, List.flatten_nil, List.append_nil]
theorem sum_step (dss : List (List TE)) (k : Nat) (h : k < dss.length) : sum dss (k + 1) = sum dss k + (dss[k]).length := by
  unfold sum
  rw [front_step dss k h, List.length_append]
theorem front_all (dss : List (List TE)) : front dss dss.length = dss.flatten := by unfold front; rw [List.take_length]
theorem sum_le (dss : List (List TE)) (k : Nat) : sum dss k ≤ dss.flatten.length := by
  have : dss.flatten = (dss.take k).flatten ++ (dss.drop k).flatten := by rw [← List.flatten_append, List.take_append_drop]
  rw [this]
  simp [sum, front]

set_option maxRecDepth 20000 in
set_option maxHeartbeats 1000000 in
theorem tconcat_any (v : Value) (vs : List Value) (dss : List (List TE)) (w : World) (hv : listsIn w v vs) (hd : txsAll w vs dss) (hn : dss.length ≤ 1000) (hs : dss.flatten.length ≤ 1000000) :
    Calls Try.prog 79 #[v] w fun e w' => ∃ v', e = .returned v' ∧ w'.ownsRow w.heap.size 48 6 v' dss.flatten.length (tcells dss.flatten) ∧ Below w.heap.size w w' := by
  obtain ⟨b, cap, rfl, hc⟩ := hv
  obtain ⟨n, hvn⟩ : ∃ n, n = vs.length := ⟨_, rfl⟩
  have HV : Hid (n = vs.length) := hvn
  have HD : Hid (n = dss.length) := by have h : n = dss.length := hvn.trans hd.1; exact h
  have HX : Hid (∀ k, k < n → ∃ h' : k < dss.length, ∃ x, w.cell? ⟨b, k, none⟩ = some x ∧ txsE w x dss[k]) := by
    have h : ∀ k, k < n → ∃ h' : k < dss.length, ∃ x, w.cell? ⟨b, k, none⟩ = some x ∧ txsE w x dss[k] := fun k hk => by
      have h1 : k < vs.length := by omega
      have h2 : k < dss.length := by have := hd.1; omega
      exact ⟨h2, vs[k], hc k h1, hd.2 k h1 h2⟩
    exact h
  have HS : Hid (∀ k, sum dss k ≤ 1000000) := fun k => Nat.le_trans (sum_le dss k) hs
  have hn' : n ≤ 1000 := by have := HD.out; omega
  obtain ⟨N, hN⟩ : ∃ N, N = dss.flatten.length := ⟨_, rfl⟩
  have HF : Hid (sum dss n = N ∧ N = dss.flatten.length ∧ dss.flatten = front dss n) := by
    have h : sum dss n = N ∧ N = dss.flatten.length ∧ dss.flatten = front dss n := by rw [HD.out, sum, front_all]; exact ⟨hN.symm, hN, rfl⟩
    exact h
  have hs' : N ≤ 1000000 := by omega
  rw [← hN, ← hvn]
  have e0 : dss.flatten = front dss n := HF.out.2.2
  rw [e0]
  clear hs hd hc hvn hN hn e0
  go_enter Try.func79, Try.ntmps79
  go_wp2
  go_loop [3, 5, 11] (fun z _ i => ∃ k : Nat, k ≤ n ∧ z = .int .i64 (sum dss k : Nat) ∧ i = .int .i64 k) (fun _ _ i => n - (intOf i).toNat)
  case atStart => exact ⟨0, by omega, by rw [sum_zero]; rfl, rfl⟩
  case round =>
    obtain ⟨k, hk, rfl, rfl⟩ := hrel
    by_cases hlt : k < n
    · obtain ⟨h', x, hc1, hd1⟩ := HX.out k hlt
      have hst := sum_step dss k h'
      have hle := HS.out (k + 1)
      obtain ⟨ao, c, rfl, h1, h2⟩ := hd1
      clear h1 h2
      generalize (dss[k]).length = m at *
      generalize hA : sum dss (k + 1) = A at *
      generalize sum dss k = B at *
      have HA : Hid (A = sum dss (k + 1)) := by have h : A = sum dss (k + 1) := hA.symm; exact h
      clear hA
      subst hst
      go_wp2
      go_round
      case rel => exact ⟨k + 1, by omega, by rw [← HA.out]; go_num, by go_num⟩
      case measure => simp [intOf]; omega
    · obtain rfl : k = n := by omega
      rw [HF.out.1]
      have HG := tgrow_nil N hs' w
      go_wp2_with (go_at_call 92; refine HG.mono ?_; rintro e w1 ⟨v0, rfl, hown, hbw⟩)
      go_loopw [6, 8, 27] (fun r _ i wr => ∃ j : Nat, j ≤ k ∧ i = .int .i64 j ∧ wr.ownsRow w.heap.size 48 6 r (front dss j).length (tcells (front dss j)) ∧ Below w.heap.size w wr) (fun _ _ i _ => k - (intOf i).toNat)
      case atStart => exact ⟨0, by omega, rfl, hown, hbw⟩
      case round =>
        clear hown hbw HG
        obtain ⟨j, hj, rfl, hown, hbw⟩ := hrel
        by_cases hlt : j < k
        · obtain ⟨h', x, hc1, hd1⟩ := HX.out j hlt
          have hc1 := keep_cell hbw hc1
          have hd1 := hd1.on hbw
          have hst := sum_step dss j h'
          have hle := HS.out (j + 1)
          have hfl := front_step dss j h'
          have hwr := hbw.size
          have hroom : (front dss j).length + (dss[j]).length ≤ 1000000 := by unfold sum at hst hle; omega
          have HFL : Hid (front dss (j + 1) = front dss j ++ dss[j]) := hfl
          have HD1 : Hid (txsE wr x dss[j]) := hd1
          obtain ⟨ao, c, rfl, -⟩ := hd1
          clear hst hle hfl
          go_wp2_with (at_builtin; refine append_any rfl _ _ rfl w.heap.size hwr _ (front dss j) rfl hown _ dss[j] rfl HD1.out hroom ?_; intro v' w1 hown' hg)
          go_roundw
          case rel => exact ⟨j + 1, by omega, by go_num, by rw [HFL.out]; exact hown', hbw.trans hg⟩
          case measure => simp [intOf]; omega
        · obtain rfl : j = k := by omega
          have HO : Hid (sum dss j = (front dss j).length) := rfl
          go_wp2
          go_ret
          exact ⟨_, rfl, by rw [← HF.out.1]; exact hown, hbw⟩
end Go.Proofs.Ytbeinicbkbkbpaa.O
/- The walks of Put of transactions, both sides, and of the document's Find. -/
namespace Go.Proofs.Ytbeinicbkbkbpaa.O
open Go.RowKit

/-- Three slices, of which one holds one transaction, made into one: at the world in which they were laid. -/
theorem cat_at (W : World) (t : Tx.Txn) (oa : Option Addr) (om oc : Nat) (V1 V2 : Value) (xs1 xs2 : List TE) (h1 : txsE W V1 xs1) (h2 : txsE W V2 xs2) (h3 : opsIn W (.slice oa om oc) t.ops) (hn : xs1.length + xs2.length ≤ 200000) :
    Calls Try.prog 79 #[.slice (some ⟨W.heap.size + 1, 0, none⟩) 3 3] ((W.alloc (txO t (.slice oa om oc))).alloc (.cells #[V1, .slice (some ⟨W.heap.size, 0, none⟩) 1 1, V2] 22)).drew
      fun e w' => ∃ r, e = .returned r ∧ txsIn w' r (xs1.map (·.1) ++ t :: xs2.map (·.1)) ∧ Below W.heap.size W w' := by
  have k1 := below_new W (txO t (.slice oa om oc))
  have k2 := below_new2 W (txO t (.slice oa om oc)) (.cells #[V1, .slice (some ⟨W.heap.size, 0, none⟩) 1 1, V2] 22)
  have k3 := k2.drew
  have e1 : (W.alloc (txO t (.slice oa om oc))).heap.size = W.heap.size + 1 := by simp
  have hE : txsE (W.alloc (txO t (.slice oa om oc))) (.slice (some ⟨W.heap.size, 0, none⟩) 1 1) [(t, .slice oa om oc)] :=
    ⟨_, 1, rfl, Nat.le_refl _, fun e => by simp at e, fun j u hu => ⟨_, rfl, new_tx W (t, .slice oa om oc) j u hu⟩, fun x hx => by rw [List.mem_singleton.1 hx]; exact h3.on k1⟩
  have k4 : Below (W.alloc (txO t (.slice oa om oc))).heap.size (W.alloc (txO t (.slice oa om oc))) ((W.alloc (txO t (.slice oa om oc))).alloc (.cells #[V1, .slice (some ⟨W.heap.size, 0, none⟩) 1 1, V2] 22)).drew := (below_new _ _).drew
  have hl : listsIn ((W.alloc (txO t (.slice oa om oc))).alloc (.cells #[V1, .slice (some ⟨W.heap.size, 0, none⟩) 1 1, V2] 22)).drew (.slice (some ⟨W.heap.size + 1, 0, none⟩) 3 3) [V1, .slice (some ⟨W.heap.size, 0, none⟩) 1 1, V2] := by
    refine ⟨W.heap.size + 1, 3, rfl, fun k hk => ?_⟩
    rw [← e1]
    generalize W.alloc (txO t (.slice oa om oc)) = X
    match k, hk with
    | 0, _ => simp
    | 1, _ => simp
    | 2, _ => simp
    | k + 3, h => exact absurd h (by simp)
  have hd : txsAll ((W.alloc (txO t (.slice oa om oc))).alloc (.cells #[V1, .slice (some ⟨W.heap.size, 0, none⟩) 1 1, V2] 22)).drew [V1, .slice (some ⟨W.heap.size, 0, none⟩) 1 1, V2] [xs1, [(t, .slice oa om oc)], xs2] := by
    refine ⟨rfl, fun k hk hk' => ?_⟩
    match k, hk, hk' with
    | 0, _, _ => exact h1.on k3
    | 1, _, _ => exact hE.on k4
    | 2, _, _ => exact h2.on k3
    | k + 3, h, _ => exact absurd h (by simp)
  refine (tconcat_any _ _ _ _ hl hd (by simp) (by simp; omega)).mono fun e w' ⟨r, he, hown, hb⟩ => ⟨r, he, ?_, bchain k3 hb⟩
  have h := txsE_own hown (fun x hx => ?_)
  · simpa using h
  · have hb' := bchain k3 hb
    simp only [List.flatten_cons, List.flatten_nil, List.append_nil, List.mem_append, List.mem_singleton] at hx
    rcases hx with hx | rfl | hx
    · obtain ⟨_, _, _, _, _, _, h⟩ := h1
      exact (h x hx).on hb'
    · exact h3.on hb'
    · obtain ⟨_, _, _, _, _, _, h⟩ := h2
      exact (h x hx).on hb'

set_option maxRecDepth 20000 in
set_option maxHeartbeats 4000000 in
theorem tput_any (v : Value) (l : List Tx.Txn) (t : Tx.Txn) (ov : Value) (w : World) (hv : txsIn w v l) (ho : opsIn w ov t.ops) (hn : l.length ≤ 100000) (hp : Tx.Rises l) :
    Calls Try.prog 61 #[v, txV t ov] w fun e w' => ∃ r, e = .returned r ∧ txsIn w' r (Tx.put l t) ∧ Below w.heap.size w w' := by
  obtain ⟨xs, hx, hE⟩ := txsE_of hv
  obtain ⟨oa, oc, rfl⟩ := ho.slice
  have HO : Hid (opsIn w (.slice oa t.ops.length oc) t.ops) := ho
  have B0 := below_new w (txO t (.slice oa t.ops.length oc))
  have O0 := TAt.new w t (.slice oa t.ops.length oc)
  have C46 := tplace_any v l t.d _ (hv.on B0) (by omega) hp
  have HE : Hid (txsE w v xs) := hE
  have HX : Hid (xs.map (·.1) = l) := hx
  have HP : Hid (Tx.Rises l) := hp
  have hxl : xs.length = l.length := by rw [← hx, List.length_map]
  obtain ⟨ao, cap, rfl, hmc, -⟩ := id hE
  obtain ⟨m, hm⟩ : ∃ m, m = xs.length := ⟨_, rfl⟩
  have HM : Hid (m = xs.length) := hm
  rw [← hm] at HE C46 hxl hmc ⊢
  obtain ⟨om, hom⟩ : ∃ om, om = t.ops.length := ⟨_, rfl⟩
  rw [← hom] at HO B0 O0 C46 ⊢
  have hm5 : m ≤ 100000 := by omega
  have HL : Hid (m = l.length) := hxl
  clear hv ho hE hx hp hm hn hom hxl
  obtain ⟨W0, hW0⟩ : ∃ W0, W0 = w.alloc (txO t (.slice oa om oc)) := ⟨_, rfl⟩
  rw [← hW0] at B0 O0 C46
  go_enter Try.func61, Try.ntmps61
  go_wp2_with fail
  rw [← hW0]
  clear hW0
  refine C46.mono ?_
  rintro e w1 ⟨i, b, rfl, hS, hb1⟩
  have B1 := bchain B0 hb1
  have O1 := O0.on hb1
  have hE1 := HE.out.on B1
  have ho1 := HO.out.on B1
  clear C46 O0 B0 hb1
  cases b with
  | true =>
    have HQ : Hid (Tx.put l t = xs.map (·.1)) := by have h := (hS.same HP.out).trans HX.out.symm; exact h
    have C47 := tclone_any _ xs w1 hE1 (by have := HM.out; omega)
    have hops : ∀ x ∈ xs, opsIn w1 x.2 x.1.ops := by
      obtain ⟨_, _, _, _, _, _, h⟩ := id hE1
      exact h
    clear hE1 ho1 O1 hS
    go_wp2_with (go_at_call 60; refine C47.mono ?_; rintro e w2 ⟨r, rfl, hown, hb2⟩)
    go_ret
    exact ⟨r, rfl, by rw [HQ.out]; exact txsE_own hown (fun x hx => (hops x hx).on hb2), bchain B1 hb2⟩
  | false =>
    have HQ := hS.put HP.out
    have hi := hS.1.2.1
    have him : i ≤ m := by have := HL.out; omega
    have h0 : (0 : Int) ≤ (i : Int) := by omega
    have h1 : (i : Int) ≤ (m : Int) := by omega
    have h2 : (i : Int) ≤ (cap : Int) := by omega
    have e1 := hE1.take him
    have e2 := hE1.drop him
    have HS1 : ∀ wx, (Instr.slice 22 (.slice ao m cap) none (some (.int .i64 (i : Int))) none).run Try.prog wx = .ok (.slice ao i cap) wx := fun wx => by go_simp
    have HS2 : ∀ wx, (Instr.slice 22 (.slice ao m cap) (some (.int .i64 (i : Int))) none none).run Try.prog wx = .ok (.slice (if cap = i then ao else ao.map (·.add (i * 6))) (m - i) (cap - i)) wx := fun wx => by go_simp
    obtain ⟨c0, c1, c2, c3, c4, c5⟩ := id O1
    have HPUT : Hid (Tx.put l t = (xs.take i).map (·.1) ++ t :: (xs.drop i).map (·.1)) := by
      have h : Tx.put l t = (xs.take i).map (·.1) ++ t :: (xs.drop i).map (·.1) := by rw [HQ, ← HX.out, List.map_take, List.map_drop]
      exact h
    generalize (if cap = i then ao else ao.map (·.add (i * 6))) = bo at *
    generalize hni : m - i = ni at *
    generalize hci : cap - i = ci at *
    clear hni hci
    have HC := cat_at w1 t oa om oc _ _ _ _ e1 e2 ho1 (by rw [List.length_take, List.length_drop]; have := HM.out; omega)
    clear e1 e2 hE1 ho1 HQ hS hi O1
    go_wp2
    go_region_held3 (fun W => W.cell? ⟨w.heap.size, 0, none⟩ = some (.int .i64 t.d.1) ∧ W.cell? ⟨w.heap.size, 1, none⟩ = some (.int .i64 t.d.2) ∧ W.cell? ⟨w.heap.size, 2, none⟩ = some (.int .i64 t.u) ∧ W.cell? ⟨w.heap.size, 3, none⟩ = some (.int .i64 t.t) ∧ W.cell? ⟨w.heap.size, 4, none⟩ = some (.bool t.thin) ∧ W.cell? ⟨w.heap.size, 5, none⟩ = some (.slice oa om oc))
      (first | exact ⟨c0, c1, c2, c3, c4, c5⟩ | exact ⟨keep_cell hb2 c0, keep_cell hb2 c1, keep_cell hb2 c2, keep_cell hb2 c3, keep_cell hb2 c4, keep_cell hb2 c5⟩ | go_keep)
      (first | (go_at_call 79; refine HC.mono ?_; rintro e w2 ⟨r, rfl, hr, hb2⟩))
    go_wp2
    go_ret
    exact ⟨r, rfl, by rw [HPUT.out]; exact hr, bchain B1 hb2⟩
end Go.Proofs.Ytbeinicbkbkbpaa.O
