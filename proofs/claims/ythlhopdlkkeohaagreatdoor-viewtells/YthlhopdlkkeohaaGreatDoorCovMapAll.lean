/- The walk of coveredBy: the set of all references that the operations of some transactions name · All, place by place, as plain mathematics; operations of a region that turn the world · The walk of tree's Leaves. -/
import Derived.Test.YthlhopdlkkeohaaGreatDoorTRaiseAll
import Derived.Test.YthlhopdlkkeohaaGreatDoorCompsAll
import Derived.Test.YthlhopdlkkeohaaGreatDoorLCompactAll
/- The walk of coveredBy: the set of all references that the operations of some transactions name. -/
namespace Go.Proofs.YthlhopdlkkeohaaGreatDoor.O
open Go.RowKit Go.Maps

/-- What all operations of these transactions name. -/
def namesO (os : List Os.Op) : List U := os.flatMap (·.l)
def namesT (ts : List Tx.Txn) : List U := ts.flatMap fun t => namesO t.ops
theorem namesO_step (os : List Os.Op) {k : Nat} (h : k < os.length) : namesO (os.take (k + 1)) = namesO (os.take k) ++ os[k].l := by
  unfold namesO
  rw [List.take_succ_eq_append_getElem h, List.flatMap_append]
  simp
theorem namesT_step (ts : List Tx.Txn) {k : Nat} (h : k < ts.length) : namesT (ts.take (k + 1)) = namesT (ts.take k) ++ namesO ts[k].ops := by
  unfold namesT
  rw [List.take_succ_eq_append_getElem h, List.flatMap_append]
  simp
theorem namesT_zero (ts : List Tx.Txn) : namesT (ts.take 0) = [] := rfl
theorem namesO_zero (os : List Os.Op) : namesO (os.take 0) = [] := rfl
theorem refsIn.get {w : World} {ao : Option Addr} {n cap : Nat} {l : List U} (h : refsIn w (.slice ao n cap) l) {k : Nat} (hk : k < l.length) : ∃ ad, ao = some ad ∧ CAt w (ad.add (k * 3)) l[k] := by
  obtain ⟨ao', c, e, _, _, hc⟩ := h
  cases e
  exact hc k hk
theorem namesO_le (os : List Os.Op) (j : Nat) : (namesO (os.take j)).length ≤ (namesO os).length := by
  have h : namesO os = namesO (os.take j) ++ namesO (os.drop j) := by
    unfold namesO
    rw [← List.flatMap_append, List.take_append_drop]
  rw [h, List.length_append]
  omega
theorem namesT_le (ts : List Tx.Txn) (j : Nat) : (namesT (ts.take j)).length ≤ (namesT ts).length := by
  have h : namesT ts = namesT (ts.take j) ++ namesT (ts.drop j) := by
    unfold namesT
    rw [← List.flatMap_append, List.take_append_drop]
  rw [h, List.length_append]
  omega
theorem namesO_many {B : Nat} : ∀ {os : List Os.Op}, (∀ o ∈ os, o.l.length ≤ B) → (namesO os).length ≤ os.length * B
  | [], _ => by simp [namesO]
  | o :: r, h => by
    have h1 := namesO_many (os := r) fun x hx => h x (by simp [hx])
    have h2 := h o (by simp)
    have e : namesO (o :: r) = o.l ++ namesO r := by simp [namesO]
    rw [e, List.length_append, List.length_cons, Nat.succ_mul]
    omega
theorem namesT_many {B : Nat} : ∀ {ts : List Tx.Txn}, (∀ t ∈ ts, (namesO t.ops).length ≤ B) → (namesT ts).length ≤ ts.length * B
  | [], _ => by simp [namesT]
  | t :: r, h => by
    have h1 := namesT_many (ts := r) fun x hx => h x (by simp [hx])
    have h2 := h t (by simp)
    have e : namesT (t :: r) = namesO t.ops ++ namesT r := by simp [namesT]
    rw [e, List.length_append, List.length_cons, Nat.succ_mul]
    omega
theorem mem_namesT {ts : List Tx.Txn} {x : U} : x ∈ namesT ts ↔ ∃ t ∈ ts, ∃ o ∈ t.ops, x ∈ o.l := by simp [namesT, namesO]
/-- Few operations, which name few, of numbers that a machine holds. -/
def Few13 (ts : List Tx.Txn) : Prop := ∀ t ∈ ts, t.ops.length ≤ 1000 ∧ ∀ o ∈ t.ops, o.l.length ≤ 1000 ∧ ∀ x ∈ o.l, goU x

theorem Few13.many {ts : List Tx.Txn} (h : Few13 ts) (hn : ts.length ≤ 1000) : (namesT ts).length ≤ 1000000000 := by
  have h1 := namesT_many (B := 1000000) (ts := ts) fun t ht => by
    obtain ⟨h2, h3⟩ := h t ht
    have h4 := namesO_many (B := 1000) (os := t.ops) fun o ho => (h3 o ho).1
    exact Nat.le_trans h4 (Nat.mul_le_mul_right 1000 h2)
  exact Nat.le_trans h1 (Nat.mul_le_mul_right 1000000 hn)
set_option maxRecDepth 20000 in
set_option maxHeartbeats 4000000 in
theorem coveredBy_any (v : Value) (ts : List Tx.Txn) (w : World) (hv : txsIn w v ts) (hn : ts.length ≤ 1000) (hf : Few13 ts) :
    Calls Tryz.prog 28 #[v] w fun e w' => e = .returned (.map (some w.heap.size)) ∧ (∃ n, n ≤ 1000000000 ∧ w'.ownsMap Tryz.prog 70 unitElem w.heap.size n (refSet (namesT ts))) ∧ Below w.heap.size w w' := by
  have hmm := @run_makeMap Tryz.prog
  obtain ⟨N9, hN9⟩ : ∃ N, (namesT ts).length = N := ⟨_, rfl⟩
  have hN9b : N9 ≤ 1000000000 := by rw [← hN9]; exact hf.many hn
  have HN9 : Hid ((namesT ts).length = N9) := hN9
  clear hN9
  obtain ⟨ao, cap, rfl, _, _, _⟩ := id hv
  obtain ⟨n, hn0⟩ : ∃ n, n = ts.length := ⟨_, rfl⟩
  have HN : Hid (n = ts.length) := hn0
  rw [← hn0] at hv hn ⊢
  have HV : Hid (txsIn w (.slice ao n cap) ts) := hv
  have HF : Hid (Few13 ts) := hf
  clear hn0 hv hf
  obtain ⟨W0, hW0⟩ : ∃ W0, W0 = w.alloc (.map #[] 0) := ⟨_, rfl⟩
  have B0 : Below w.heap.size w W0 := by rw [hW0]; exact below_new _ _
  have M0 : W0.ownsMap Tryz.prog 70 (unitElem (H := Unit)) w.heap.size 0 (refSet []) := by rw [hW0]; exact World.ownsMap_made _ _ _ _
  have s0 : w.heap.size + 1 ≤ W0.heap.size := by rw [hW0]; simp
  go_enter Tryz.func28, Tryz.ntmps28
  go_wp2
  rw [← hW0]
  clear hW0
  go_loopw [5, 7, 9, 13] (fun _ _ _ i wr => ∃ (k : Nat) (L : List U), k ≤ n ∧ i = .int .i64 k ∧ Hid (L = namesT (ts.take k)) ∧ wr.ownsMap Tryz.prog 70 (unitElem (H := Unit)) w.heap.size L.length (refSet L) ∧ Below w.heap.size w wr ∧ w.heap.size + 1 ≤ wr.heap.size) (fun _ _ _ i _ => n - (intOf i).toNat)
  case atStart => exact ⟨0, [], by omega, rfl, namesT_zero ts, M0, B0, s0⟩
  case round =>
    clear M0 s0 B0
    obtain ⟨k, L, hk, rfl, HL, hM, hbw, hsz⟩ := hrel
    by_cases hlt : k < n
    · have hkx : k < ts.length := by rw [← HN.out]; exact hlt
      obtain ⟨ad, ov, rfl, hA, ho⟩ := HV.out.get hkx
      obtain ⟨c0, c1, c2, c3, c4, c5⟩ := hA.on hbw
      have hfew := HF.out _ (List.getElem_mem hkx)
      have HS : Hid (namesT (ts.take (k + 1)) = L ++ namesO ts[k].ops) := by
        have h := namesT_step ts hkx
        rw [← HL.out] at h
        exact h
      have F1 : L.length + (namesO ts[k].ops).length ≤ N9 := by
        have h := namesT_le ts (k + 1)
        rw [HS.out, List.length_append, HN9.out] at h
        exact h
      obtain ⟨oo, oc, rfl⟩ := ho.slice
      generalize ts[k] = t at *
      obtain ⟨m, hm⟩ : ∃ m, m = t.ops.length := ⟨_, rfl⟩
      have HM : Hid (m = t.ops.length) := hm
      rw [← hm] at ho c5
      have hm1 : m ≤ 1000 := by rw [hm]; exact hfew.1
      have HO : Hid (opsIn w (.slice oo m oc) t.ops) := ho
      have HW : Hid (∀ o ∈ t.ops, o.l.length ≤ 1000 ∧ ∀ x ∈ o.l, goU x) := hfew.2
      clear hm ho hfew hA HL
      obtain ⟨W1, hW1⟩ : ∃ W1, W1 = wr.alloc (txO t (.slice oo m oc)) := ⟨_, rfl⟩
      have B1 : Below wr.heap.size wr W1 := by rw [hW1]; exact below_new _ _
      have M1 : W1.ownsMap Tryz.prog 70 (unitElem (H := Unit)) w.heap.size L.length (refSet L) := by rw [hW1]; exact hM.alloc _
      have s1 : w.heap.size + 1 ≤ W1.heap.size := by rw [hW1]; simp; omega
      go_wp2
      rw [← hW1]
      clear hW1
      go_loopw [7, 9, 20] (fun _ _ i wr => ∃ (j : Nat) (L2 : List U), j ≤ m ∧ i = .int .i64 j ∧ Hid (L2 = L ++ namesO (t.ops.take j)) ∧ wr.ownsMap Tryz.prog 70 (unitElem (H := Unit)) w.heap.size L2.length (refSet L2) ∧ Below w.heap.size w wr ∧ w.heap.size + 1 ≤ wr.heap.size) (fun _ _ i _ => m - (intOf i).toNat)
      case atStart => exact ⟨0, L, by omega, rfl, show L = L ++ namesO (t.ops.take 0) from by rw [namesO_zero, List.append_nil], M1, hbw.trans (B1.mono (by omega)), s1⟩
      case round =>
        clear M1 s1 B1 hM hbw hsz c0 c1 c2 c3 c4 c5
        obtain ⟨j, L2, hj, rfl, HL2, hM, hbw, hsz⟩ := hrel
        by_cases hlt2 : j < m
        · have hjx : j < t.ops.length := by rw [← HM.out]; exact hlt2
          obtain ⟨ad2, pv, sv, rfl, hA, _, hs⟩ := HO.out.get hjx
          obtain ⟨d0, d1, d2, d3, d4, d5, d6⟩ := hA.on hbw
          have hfew := HW.out _ (List.getElem_mem hjx)
          have HS2 : Hid (L ++ namesO (t.ops.take (j + 1)) = L2 ++ t.ops[j].l) := by
            have h := namesO_step t.ops hjx
            have h2 : L ++ namesO (t.ops.take (j + 1)) = L2 ++ t.ops[j].l := by rw [h, HL2.out, List.append_assoc]
            exact h2
          have F2 : L2.length + (t.ops[j].l).length ≤ N9 := by
            have h := namesO_le t.ops (j + 1)
            have h2 := congrArg List.length HS2.out
            rw [List.length_append, List.length_append] at h2
            omega
          obtain ⟨so, sn, sc, rfl⟩ := refs_slice hs
          obtain rfl := hs.len
          generalize t.ops[j] = o at *
          obtain ⟨q, hq⟩ : ∃ q, q = o.l.length := ⟨_, rfl⟩
          have HQ : Hid (q = o.l.length) := hq
          rw [← hq] at hs d6 F2
          have hq1 : q ≤ 1000 := by rw [hq]; exact hfew.1
          have HR : Hid (refsIn w (.slice so q sc) o.l) := hs
          have HG : Hid (∀ x ∈ o.l, goU x) := hfew.2
          obtain ⟨pa, pn, pc, rfl⟩ : ∃ a n c, pv = .slice a n c := by
            rename_i hp
            exact strs_slice hp
          clear hq hs hfew hA HL2
          obtain ⟨W1, hW1⟩ : ∃ W1, W1 = wr.alloc (oO o (.slice pa pn pc) (.slice so q sc)) := ⟨_, rfl⟩
          have B1 : Below wr.heap.size wr W1 := by rw [hW1]; exact below_new _ _
          have M1 : W1.ownsMap Tryz.prog 70 (unitElem (H := Unit)) w.heap.size L2.length (refSet L2) := by rw [hW1]; exact hM.alloc _
          have s1 : w.heap.size + 1 ≤ W1.heap.size := by rw [hW1]; simp; omega
          go_wp2
          rw [← hW1]
          clear hW1
          go_loopw [9, 27] (fun _ i wr => ∃ (r : Nat) (L3 : List U), r ≤ q ∧ i = .int .i64 r ∧ Hid (L3 = L2 ++ o.l.take r) ∧ wr.ownsMap Tryz.prog 70 (unitElem (H := Unit)) w.heap.size L3.length (refSet L3) ∧ Below w.heap.size w wr ∧ w.heap.size + 1 ≤ wr.heap.size) (fun _ i _ => q - (intOf i).toNat)
          case atStart => exact ⟨0, L2, by omega, rfl, show L2 = L2 ++ o.l.take 0 from by rw [List.take_zero, List.append_nil], M1, hbw.trans (B1.mono (by omega)), s1⟩
          case round =>
            clear M1 s1 B1 hM hbw hsz d0 d1 d2 d3 d4 d5 d6
            obtain ⟨r, L3, hr, rfl, HL3, hM, hbw, hsz⟩ := hrel
            by_cases hlt3 : r < q
            · have hrx : r < o.l.length := by rw [← HQ.out]; exact hlt3
              obtain ⟨ad3, rfl, hA⟩ := HR.out.get hrx
              obtain ⟨e0, e1, e2⟩ := hA.on hbw
              have hg := HG.out _ (List.getElem_mem hrx)
              have HS3 : Hid (L2 ++ o.l.take (r + 1) = L3 ++ [o.l[r]]) := by
                have h : L2 ++ o.l.take (r + 1) = L3 ++ [o.l[r]] := by rw [List.take_succ_eq_append_getElem hrx, HL3.out, List.append_assoc]
                exact h
              have F3 : L3.length + 1 ≤ N9 := by
                have h2 := congrArg List.length HL3.out
                rw [List.length_append, List.length_take] at h2
                omega
              generalize o.l[r] = x at *
              have hkey := keyL_of hg
              clear hA HL3
              go_wp2_with (first
                | (at_mapUpdate; refine wpList_mapUpdate_own _ rfl _ _ _ 67 rfl 70 72 keyLaw Tryz.underlying67 (unitElem (H := Unit)) w.heap.size L3.length _ rfl (hM.alloc _) (by unfold maxLen; omega) _ _ _ rfl rfl hkey _ [] unitElem_mk ?_; intro w1 hM1 hg1)
                | go_in)
              have z1 := hg1.size
              simp at z1
              go_roundw
              case rel =>
                refine ⟨r + 1, L3 ++ [x], by omega, by go_num, HS3.out.symm, ?_, ?_, by omega⟩
                · rw [refSet_snoc, List.length_append]
                  exact hM1
                · exact (hbw.alloc (by omega) _).grown hg1 (by simp; omega) (fun g hg => by cases hg; exact Nat.le_refl _)
              case measure => simp [intOf]; omega
            · obtain rfl : r = q := by omega
              have HE : Hid (L3 = L ++ namesO (t.ops.take (j + 1))) := by
                have h := HL3.out
                rw [HQ.out, List.take_length] at h
                have h2 := h.trans HS2.out.symm
                exact h2
              go_wp2
              go_roundw
              case rel => exact ⟨j + 1, L3, by omega, by go_num, HE, hM, hbw, hsz⟩
              case measure => simp [intOf]; omega
        · obtain rfl : j = m := by omega
          have HE : Hid (L2 = namesT (ts.take (k + 1))) := by
            have h := HL2.out
            rw [HM.out, List.take_length] at h
            have h2 := h.trans HS.out.symm
            exact h2
          go_wp2
          go_roundw
          case rel => exact ⟨k + 1, L2, by omega, by go_num, HE, hM, hbw, hsz⟩
          case measure => simp [intOf]; omega
    · obtain rfl : k = n := by omega
      have HE : Hid (L = namesT ts) := by
        have h := HL.out
        rw [HN.out, List.take_length] at h
        exact h
      go_wp2
      go_ret
      exact ⟨rfl, ⟨L.length, by rw [HE.out, HN9.out]; exact hN9b, by rw [← HE.out]; exact hM⟩, hbw⟩
end Go.Proofs.YthlhopdlkkeohaaGreatDoor.O
/- All, place by place, as plain mathematics; operations of a region that turn the world. -/
namespace Go.Proofs.YthlhopdlkkeohaaGreatDoor.O
open Go.RowKit

/-- The items of the first operations of a transaction. -/
def itTo (cov : U → Bool) (sn : D → Bool) (t : Tx.Txn) (j : Nat) : List Lv.Item := if sn t.d = true then Lv.items cov t.d t.t 0 (t.ops.take j) else []
theorem itTo_zero (cov : U → Bool) (sn : D → Bool) (t : Tx.Txn) : itTo cov sn t 0 = [] := by simp [itTo, Lv.items]
theorem itTo_hit {cov : U → Bool} {sn : D → Bool} {t : Tx.Txn} {j : Nat} (hj : j < t.ops.length) (hs : sn t.d = true) (ha : Lv.able t.ops[j].k = true) (hc : cov (t.d, (j : Int)) = false) : itTo cov sn t (j + 1) = itTo cov sn t j ++ [⟨(t.d, (j : Int)), t.ops[j], t.t⟩] := by
  unfold itTo
  rw [if_pos hs, if_pos hs, Lv.items_step _ _ _ _ hj, if_pos ⟨ha, hc⟩]
theorem itTo_miss {cov : U → Bool} {sn : D → Bool} {t : Tx.Txn} {j : Nat} (hj : j < t.ops.length) (h : ¬ (sn t.d = true ∧ Lv.able t.ops[j].k = true ∧ cov (t.d, (j : Int)) = false)) : itTo cov sn t (j + 1) = itTo cov sn t j := by
  unfold itTo
  by_cases hs : sn t.d = true
  · rw [if_pos hs, if_pos hs, Lv.items_step _ _ _ _ hj, if_neg fun q => h ⟨hs, q.1, q.2⟩, List.append_nil]
  · rw [if_neg hs, if_neg hs]
theorem itTo_end {cov : U → Bool} {sn : D → Bool} {t : Tx.Txn} {j : Nat} (hj : ¬ j < t.ops.length) : itTo cov sn t j = Lv.itemsOf cov sn t := by
  unfold itTo Lv.itemsOf
  rw [List.take_of_length_le (by omega)]
theorem allBy_le (cov : U → Bool) (sn : D → Bool) (ts : List Tx.Txn) (k : Nat) : (Lv.allBy cov sn (ts.take k)).length ≤ (Lv.allBy cov sn ts).length := by
  have h : Lv.allBy cov sn ts = Lv.allBy cov sn (ts.take k) ++ Lv.allBy cov sn (ts.drop k) := by
    unfold Lv.allBy
    rw [← List.flatMap_append, List.take_append_drop]
  rw [h, List.length_append]
  omega
theorem itTo_le (cov : U → Bool) (sn : D → Bool) (t : Tx.Txn) (j : Nat) : (itTo cov sn t j).length ≤ (Lv.itemsOf cov sn t).length := by
  unfold itTo Lv.itemsOf
  split
  · have h : Lv.items cov t.d t.t 0 t.ops = Lv.items cov t.d t.t 0 (t.ops.take j) ++ Lv.items cov t.d t.t (0 + (t.ops.take j).length) (t.ops.drop j) := by
      rw [← Lv.items_append, List.take_append_drop]
    rw [h, List.length_append]
    omega
  · simp
theorem allBy_zero (cov : U → Bool) (sn : D → Bool) (ts : List Tx.Txn) : Lv.allBy cov sn (ts.take 0) = [] := by simp [Lv.allBy]
/-- Of those that count all are asked. -/
theorem allBy_filter (cov : U → Bool) (sn : D → Bool) : ∀ ts : List Tx.Txn, Lv.allBy cov (fun _ => true) (ts.filter fun t => sn t.d) = Lv.allBy cov sn ts
  | [] => rfl
  | t :: r => by
    have ih := allBy_filter cov sn r
    have e : ∀ s q, Lv.allBy cov s (t :: q) = Lv.itemsOf cov s t ++ Lv.allBy cov s q := fun s q => by simp [Lv.allBy]
    cases h : sn t.d with
    | true =>
      rw [List.filter_cons_of_pos (by simpa using h), e, e, ih]
      congr 1
      simp [Lv.itemsOf, h]
    | false =>
      rw [List.filter_cons_of_neg (by simp [h]), e, ih]
      simp [Lv.itemsOf, h]
theorem covered_filter (ts : List Tx.Txn) (sn : D → Bool) (x : U) : decide (x ∈ namesT (ts.filter fun t => sn t.d)) = Lv.covered ts sn x := by
  rw [Bool.eq_iff_iff, decide_eq_true_iff, mem_namesT]
  unfold Lv.covered Lv.names
  rw [List.any_eq_true]
  constructor
  · rintro ⟨t, ht, o, ho, hx⟩
    have := List.mem_filter.1 ht
    refine ⟨t, this.1, ?_⟩
    rw [Bool.and_eq_true]
    exact ⟨this.2, List.any_eq_true.2 ⟨o, ho, decide_eq_true hx⟩⟩
  · rintro ⟨t, ht, h⟩
    rw [Bool.and_eq_true] at h
    obtain ⟨o, ho, hx⟩ := List.any_eq_true.1 h.2
    exact ⟨t, List.mem_filter.2 ⟨ht, h.1⟩, o, ho, of_decide_eq_true hx⟩
/-- An item more in a row. -/
theorem new_item (w : World) (x : IE) (T : TypeId) : ∀ j v, ([x].flatMap icell)[j]? = some v → (w.alloc (.cells (icell x).toArray T)).cell? ((⟨w.heap.size, 0, none⟩ : Addr).add j) = some v := fun j v hv => by
  refine new_cells w (icell x) T j v ?_
  simpa using hv

theorem heap_lt9 {w : World} {b : Nat} {o : Obj} (h : w.heap[b]? = some o) : b < w.heap.size := (Array.getElem?_eq_some_iff.1 h).1
/-- A block of another type is not the row's. -/
theorem own_ne_block {w : World} {B s n b : Nat} {e e' : TypeId} {v : Value} {xs : List Value} {cs : Array Value} (h : w.ownsRow B e s v n xs) (hb : w.heap[b]? = some (.cells cs e' (0, 0))) (he : e' ≠ e) : some b ≠ v.ownBlock := by
  rcases h.2 with ⟨rfl, _⟩ | ⟨k, cap, cur, rfl, _, hk, _⟩
  · intro q; cases q
  · intro q
    have e1 : b = k := Option.some.inj q
    subst e1
    rw [hb] at hk
    have := Option.some.inj hk
    injection this with _ e3 _
    exact he e3
section
variable {P : Program} {md : Region.Mode} {ops : Array Oper} {Q : Exit → Act → World → Prop} {S : World → Prop} {i : Nat} {o : Oper} {v : Value} {fuel : Nat} {listed : Array Bool} {a : Act} {w w' : World}
/-- An operation that turns the world. -/
theorem held_run (ho : ops[i]? = some o) (hr : Region.ready md ops listed = [i]) (hw : Region.wanted o (yielded ops a.tmps) = true) (he : (execOp a.eval o).run P w = .ok (.value v) w') (hS : S w')
    (h : wpAnyH P md ops Q S fuel (listed.setIfInBounds i true) (a.put o.dst v) w') : wpAnyH P md ops Q S (fuel + 1) listed a w :=
  wpAnyH_ready hr (by simp) (AllReadyH.cons ho (fun K hK => by
    rw [if_pos hw, Oper.wp, he]
    exact hK.out _ _ hS (fun _ => h)) AllReadyH.nil)
/-- An operation that is only told of. -/
theorem held_wp {R : Value → World → Prop} (ho : ops[i]? = some o) (hr : Region.ready md ops listed = [i]) (hw : Region.wanted o (yielded ops a.tmps) = true)
    (he : ∀ (K : Act → World → Prop) (Q : Exit → Act → World → Prop), (∀ v' w', R v' w' → K (a.put o.dst v') w') → o.wp P a w K Q)
    (h : ∀ v' w', R v' w' → S w' ∧ wpAnyH P md ops Q S fuel (listed.setIfInBounds i true) (a.put o.dst v') w') : wpAnyH P md ops Q S (fuel + 1) listed a w :=
  wpAnyH_ready hr (by simp) (AllReadyH.cons ho (fun K hK => by
    rw [if_pos hw]
    exact he _ _ fun v' w' hR => hK.out _ _ (h v' w' hR).1 (fun _ => (h v' w' hR).2)) AllReadyH.nil)
end
/-- One item is appended to a row that the call owns. -/
theorem wp_append_item {o : Oper} {a : Act} {w : World} {K : Act → World → Prop} {Q : Exit → Act → World → Prop} {ST T : TypeId} {i0 : TypeInfo} {z : Value} (hu : Tryz.prog.underlying ST = some (.slice T)) (hi : Tryz.prog.info? T = some i0) (hz : i0.zero = some z) (hz1 : i0.size = 11) (hz2 : i0.bytes = 128) (hz3 : z.cells.size = 11) (s x : Operand)
    (ho : o.op = .call { callee := .builtin .append, args := #[s, x], argTypes := #[ST, ST] }) (B : Nat) (hB : B ≤ w.heap.size) (r : Value) (acc : List IE) (hs : a.eval s = r) (hown : w.ownsRow B T 11 r acc.length (acc.flatMap icell))
    (g : Nat) (y : IE) (hx : a.eval x = .slice (some ⟨g, 0, none⟩) 1 1) (hv : ∀ j v, ([y].flatMap icell)[j]? = some v → w.cell? ((⟨g, 0, none⟩ : Addr).add j) = some v) (hone : ∀ u ∈ icell y, u.oneCell' = true) (hn : acc.length + 1 ≤ 1000001)
    (h : ∀ r' w', w'.ownsRow B T 11 r' (acc ++ [y]).length ((acc ++ [y]).flatMap icell) ∧ w.grownBy w' r.ownBlock → K (a.put o.dst r') w') : o.wp Tryz.prog a w K Q := by
  refine wp_append_own w s x ST ho B T i0 z 11 128 hu hi hz hz1 hz2 hz3 (by decide) r _ _ hs hown ⟨g, 0, none⟩ 1 1 ([y].flatMap icell) hx (by simp [icell]) hv (by simpa using hone) (by unfold maxLen; omega) (by omega) hB ?_
  intro v' w1 hown' hg _
  refine h v' w1 ⟨?_, hg⟩
  rw [List.flatMap_append, List.length_append]
  exact hown'
end Go.Proofs.YthlhopdlkkeohaaGreatDoor.O
/- The walk of tree's Leaves. -/
namespace Go.Proofs.YthlhopdlkkeohaaGreatDoor.O
open Go.RowKit

theorem wp_append_one {α : Type} {f : α → List Value} {m by_ : Nat} (hf : ∀ x, (f x).length = m) (hm : 0 < m) {o : Oper} {a : Act} {w : World} {K : Act → World → Prop} {Q : Exit → Act → World → Prop} {ST T : TypeId} {i0 : TypeInfo} {z : Value}
    (hu : Tryz.prog.underlying ST = some (.slice T)) (hi : Tryz.prog.info? T = some i0) (hz : i0.zero = some z) (hz1 : i0.size = m) (hz2 : i0.bytes = by_) (hz3 : z.cells.size = m) (hb9 : by_ ≤ 1000) (s x : Operand)
    (ho : o.op = .call { callee := .builtin .append, args := #[s, x], argTypes := #[ST, ST] }) (B : Nat) (hB : B ≤ w.heap.size) (r : Value) (acc : List α) (hs : a.eval s = r) (hown : w.ownsRow B T m r acc.length (acc.flatMap f))
    (g : Nat) (y : α) (hx : a.eval x = .slice (some ⟨g, 0, none⟩) 1 1) (hv : ∀ j v, (f y)[j]? = some v → w.cell? ((⟨g, 0, none⟩ : Addr).add j) = some v) (hone : ∀ u ∈ f y, u.oneCell' = true) (hn : acc.length + 1 ≤ 1000001)
    (h : ∀ r' w', w'.ownsRow B T m r' (acc ++ [y]).length ((acc ++ [y]).flatMap f) ∧ w.grownBy w' r.ownBlock → K (a.put o.dst r') w') : o.wp Tryz.prog a w K Q := by
  have hby : (acc.length + 1) * by_ ≤ 1000001 * 1000 := Nat.mul_le_mul hn hb9
  refine wp_append_own w s x ST ho B T i0 z m by_ hu hi hz hz1 hz2 hz3 hm r _ _ hs hown ⟨g, 0, none⟩ 1 1 (f y) hx (by rw [hf]; omega) hv hone (by unfold maxLen; omega) (by omega) hB ?_
  intro v' w1 hown' hg _
  refine h v' w1 ⟨?_, hg⟩
  rw [List.flatMap_append, List.length_append]
  simpa using hown'
theorem leafB_any (k : Int) (w : World) : Calls Tryz.prog 72 #[.int .i64 k] w fun e w' => e = .returned (.int .i64 (Os.leaf k)) ∧ Below w.heap.size w w' :=
  (leaf_any k w).mono fun _ _ ⟨a, b⟩ => ⟨a, by rw [b]; exact Below.refl _ _⟩
theorem cloneSl_any (v : Value) (xs : List (List UInt8)) (w : World) (hv : U.strsAt w v xs) (hn : xs.length ≤ 1000000) :
    Calls Tryz.prog 38 #[v] w fun e w' => ∃ ra rn rk, e = .returned (.slice ra rn rk) ∧ w'.ownsRow w.heap.size 9 1 (.slice ra rn rk) xs.length (U.cellsS xs) ∧ Below w.heap.size w w' :=
  (cloneS_any v xs w hv hn).mono fun _ _ ⟨r, a, b, c⟩ => by
    obtain ⟨ra, rn, rk, rfl⟩ := own_slice b
    exact ⟨ra, rn, rk, a, b, c⟩
/-- A loop's variable while a region goes. -/
structure LvS (w : World) (b : Nat) (x : IE) (W : World) : Prop where
  it : IcAt W ⟨b, 0, none⟩ x
  below : Below w.heap.size w W
  low : w.heap.size ≤ W.heap.size
  ty : ∃ cs, W.heap[b]? = some (.cells cs 76 (0, 0))

theorem LvS.on {w : World} {b : Nat} {x : IE} {W W' : World} (h : LvS w b x W) (hb : Below W.heap.size W W') : LvS w b x W' :=
  ⟨h.it.on hb, bchain h.below hb, Nat.le_trans h.low hb.size, by obtain ⟨cs, e⟩ := h.ty; exact ⟨cs, (hb.block b (heap_lt9 e)).trans e⟩⟩
theorem LvS.grown {w : World} {b n : Nat} {x : IE} {W W' : World} {r : Value} {cs : List Value} (h : LvS w b x W) (hg : W.grownBy W' r.ownBlock) (hown : W.ownsRow w.heap.size 85 2 r n cs) : LvS w b x W' := by
  obtain ⟨cs9, e⟩ := h.ty
  have hne : some b ≠ r.ownBlock := own_ne_block hown e (by decide)
  refine ⟨?_, h.below.grown hg h.low (fun g e => (hown.lt g e).1), Nat.le_trans h.low hg.size, ⟨cs9, (hg.block b (heap_lt9 e) hne).trans e⟩⟩
  obtain ⟨c0, c1, c2, c3, c4, c5, c6, c7, c8, c9, c10⟩ := h.it
  exact ⟨hg.cell c0 hne, hg.cell c1 hne, hg.cell c2 hne, hg.cell c3 hne, hg.cell c4 hne, hg.cell c5 hne, hg.cell c6 hne, hg.cell c7 hne, hg.cell c8 hne, hg.cell c9 hne, hg.cell c10 hne⟩
theorem leaf_small (k : Int) : -100 ≤ Os.leaf k ∧ Os.leaf k ≤ 100 := by
  unfold Os.leaf
  split
  · omega
  · split
    · omega
    · split <;> omega
theorem compactLR_any (v : Value) (ds : List LE) (B : Nat) (w0 w : World) (hb : Below B w0 w) (h : rowR lcell 2 w B v ds) (hn : ds.length ≤ 1000000) (hfine : ∀ x ∈ ds, LFine x.1) (hown : ∀ x ∈ ds, LOwn w B x) (hsep : ∀ x ∈ ds, ∀ g, v.ownBlock = some g → x.2.ownBlock ≠ some g) :
    Calls Tryz.prog 75 #[v, .func (.func 76) #[] #[]] w fun e w' => ∃ r zs, e = .returned r ∧ zs.map Prod.fst = Li.thin (ds.map Prod.fst) ∧ (∀ x ∈ zs, x ∈ ds) ∧ lvsE w' r zs ∧ Below B w0 w' := by
  rcases h with ⟨rfl, rfl⟩ | ⟨g, cap, rfl, h2, h3, h4, h5⟩
  · go_enter Tryz.func75, Tryz.ntmps75
    go_wp2
    go_ret
    exact ⟨_, [], rfl, rfl, by simp, lvsE_row (B := B) (.inl ⟨rfl, rfl⟩) (by simp), hb⟩
  · refine (compactL_any g cap ds B w0 w hb h4 h5 hn h2 h3 hfine hown fun x hx => hsep x hx g rfl).mono ?_
    rintro e w' ⟨rfl, hO, hb1, hbt⟩
    have hl := Li.ddK_len (f := Prod.fst) (l := ds) (Nat.le_refl _)
    refine ⟨_, Li.ddK Prod.fst ds ds.length, rfl, ?_, fun x hx => Li.ddK_mem hx, lvsE_row (B := B) (.inr ⟨g, cap, rfl, by omega, h3, h4, hO⟩) fun x hx => LOwn.ok (own_but2 (hown x (Li.ddK_mem hx)) hbt (hsep x (Li.ddK_mem hx) g rfl)), hb1⟩
    rw [Li.ddK_map (Nat.le_refl _), Li.dd_all (by simp)]
theorem thin_leaves {ys : List LE} {ls : List Tr.Leaf} (hp : (ys.map Prod.fst).Perm ls) (hs : ys.Pairwise fun a b => Tr.lcomp a.1 b.1 ≤ 0) : Li.thin (ys.map Prod.fst) = Li.vals Tr.lcomp ls :=
  Li.vals_thin Tr.lord (by rw [List.pairwise_map]; exact hs) fun x => hp.mem_iff

set_option maxRecDepth 20000 in
set_option maxHeartbeats 4000000 in
theorem leavesT_any (v : Value) (xs : List IE) (w : World) (hv : itsE w v xs) (hn : xs.length ≤ 1000000) (hs : ShortI xs) :
    Calls Tryz.prog 35 #[v] w fun e w' => ∃ r zs, e = .returned r ∧ zs.map Prod.fst = Tr.leaves (xs.map (·.1)) ∧ lvsE w' r zs ∧ Below w.heap.size w w' := by
  obtain ⟨ao, cap, rfl⟩ := hv.slice
  obtain ⟨i0, hi0, hz0, hz1, hz2⟩ := linfo77
  obtain ⟨n, hn0⟩ : ∃ n, n = xs.length := ⟨_, rfl⟩
  have HN : Hid (n = xs.length) := hn0
  rw [← hn0] at hv hn ⊢
  have HV : Hid (itsE w (.slice ao n cap) xs) := hv
  have HS : Hid (ShortI xs) := hs
  clear hn0 hv hs
  go_enter Tryz.func35, Tryz.ntmps35
  go_wp2
  go_loopw [3, 5, 8] (fun out _ i wr => ∃ (k : Nat) (acc : List LE), k ≤ n ∧ i = .int .i64 k ∧ Hid (acc.map Prod.fst = (xs.take k).map fun y => Tr.leafOf y.1) ∧ wr.ownsRow w.heap.size 85 2 out acc.length (acc.flatMap lcell) ∧ Hid (∀ x ∈ acc, LOwn wr w.heap.size x) ∧ Below w.heap.size w wr) (fun _ _ i _ => n - (intOf i).toNat)
  case atStart => exact ⟨0, [], by omega, rfl, rfl, World.ownsRow_nil _ _ _ _, fun x hx => by simp at hx, Below.refl _ _⟩
  case round =>
    obtain ⟨k, acc, hk, rfl, HA, hown, HLo, hbw⟩ := hrel
    have hal := congrArg List.length HA.out
    rw [List.length_map, List.length_map, List.length_take] at hal
    have hroom : acc.length + 1 ≤ 1000001 := by omega
    by_cases hkn : k < n
    · have hkx : k < xs.length := by rw [← HN.out]; exact hkn
      obtain ⟨ad, rfl, -, hX, hXi⟩ := (HV.out.on hbw).get hkx
      have hsz := short_sizes (HS.out _ (List.getElem_mem hkx))
      have hpl := (short_parts (HS.out _ (List.getElem_mem hkx))).1.1
      have HE : Hid (∀ rc, (acc ++ [((Tr.leafOf xs[k].1, rc) : LE)]).map Prod.fst = (xs.take (k + 1)).map fun y => Tr.leafOf y.1) := by
        have h : ∀ rc, (acc ++ [((Tr.leafOf xs[k].1, rc) : LE)]).map Prod.fst = (xs.take (k + 1)).map fun y => Tr.leafOf y.1 := fun rc => by
          rw [List.take_succ_eq_append_getElem hkx, List.map_append, List.map_append, HA.out]
          rfl
        exact h
      clear HA hal
      generalize xs[k] = y at *
      obtain ⟨it, pv, sv⟩ := y
      obtain ⟨hpx, hrx⟩ : U.strsAt wr pv it.o.p ∧ refsIn wr sv it.o.l := hXi
      have hsz1 : it.o.p.length ≤ 1000000 := by have h : it.o.p.length ≤ 12 := hpl; omega
      obtain ⟨pa, pn, pc, rfl⟩ := strs_slice hpx
      obtain ⟨sa, sn, sc, rfl⟩ := refs_slice hrx
      obtain ⟨c0, c1, c2, c3, c4, c5, c6, c7, c8, c9, c10⟩ := hX
      have HE : Hid (∀ rc, (acc ++ [(((it.o.p, Os.leaf it.o.k), rc) : LE)]).map Prod.fst = (xs.take (k + 1)).map fun y => Tr.leafOf y.1) := HE
      have bA := below_new wr (.cells (icell ((it, .slice pa pn pc, .slice sa sn sc) : IE)).toArray 76)
      have hBs := Nat.le_trans hbw.size bA.size
      have hty : ∃ cs, (wr.alloc (.cells (icell ((it, .slice pa pn pc, .slice sa sn sc) : IE)).toArray 76)).drew.heap[wr.heap.size]? = some (.cells cs 76 (0, 0)) := ⟨_, heap_alloc_new wr _⟩
      clear hsz hpl hrx
      go_wp2
      refine wp_region_held_drew (S := fun W => LvS w wr.heap.size ((it, .slice pa pn pc, .slice sa sn sc) : IE) W) (by kernel_rfl) (LvS.mk ((IcAt.new wr ((it, .slice pa pn pc, .slice sa sn sc) : IE) 76).on (Below.refl _ _).drew) (bchain hbw bA.drew) hBs hty) (fun hH0 => ?_)
      refine held_take (i := 0) (o := { dst := some 12, op := Op.move (Operand.tmp 3), type := 82, pos := "tree.go:33", after := #[], guard := none }) (v := u3) (by kernel_rfl) (by kernel_rfl) (by kernel_rfl) (by kernel_rfl) (fun _ _ _ h => h) (by kernel_rfl) (fun _ _ => by kernel_rfl) hH0 ?_
      refine held_take (i := 1) (o := { dst := some 13, op := Op.fieldAddr 76 (Operand.tmp 5) 1, type := 0, pos := "tree.go:33", after := #[], guard := none }) (v := .pointer (some ⟨wr.heap.size, 0 + 3, none⟩)) (by kernel_rfl) (by kernel_rfl) (by kernel_rfl) (by kernel_rfl) (fun _ _ _ h => h) (by kernel_rfl) (fun W _ => ex_f_item_1 (p := ⟨wr.heap.size, 0, none⟩) rfl (by kernel_rfl) W) hH0 ?_
      refine held_take (i := 2) (o := { dst := some 14, op := Op.fieldAddr 65 (Operand.tmp 13) 1, type := 0, pos := "tree.go:33", after := #[{ on := 1, ground := Ground.data }], guard := none }) (v := .pointer (some ⟨wr.heap.size, 0 + 4, none⟩)) (by kernel_rfl) (by kernel_rfl) (by kernel_rfl) (by kernel_rfl) (fun _ _ _ h => h) (by kernel_rfl) (fun W _ => ex_f_op_1 (p := ⟨wr.heap.size, 0 + 3, none⟩) rfl (by kernel_rfl) W) hH0 ?_
      refine held_take (i := 3) (o := { dst := some 15, op := Op.load 24 (Operand.tmp 14), type := 24, pos := "tree.go:33", after := #[{ on := 2, ground := Ground.data }], guard := none }) (v := .slice pa pn pc) (by kernel_rfl) (by kernel_rfl) (by kernel_rfl) (by kernel_rfl) (fun _ _ _ h => h) (by kernel_rfl) (fun _ h => ex_l1_strs (p := ⟨wr.heap.size, 0 + 4, none⟩) rfl (by kernel_rfl) (h.it.c4)) hH0 ?_
      refine held_take (i := 5) (o := { dst := some 17, op := Op.fieldAddr 76 (Operand.tmp 5) 1, type := 0, pos := "tree.go:33", after := #[], guard := none }) (v := .pointer (some ⟨wr.heap.size, 0 + 3, none⟩)) (by kernel_rfl) (by kernel_rfl) (by kernel_rfl) (by kernel_rfl) (fun _ _ _ h => h) (by kernel_rfl) (fun W _ => ex_f_item_1 (p := ⟨wr.heap.size, 0, none⟩) rfl (by kernel_rfl) W) hH0 ?_
      refine held_take (i := 6) (o := { dst := some 18, op := Op.fieldAddr 65 (Operand.tmp 17) 0, type := 0, pos := "tree.go:33", after := #[{ on := 5, ground := Ground.data }], guard := none }) (v := .pointer (some ⟨wr.heap.size, 0 + 3, none⟩)) (by kernel_rfl) (by kernel_rfl) (by kernel_rfl) (by kernel_rfl) (fun _ _ _ h => h) (by kernel_rfl) (fun W _ => ex_f_op_0 (p := ⟨wr.heap.size, 0 + 3, none⟩) rfl (by kernel_rfl) W) hH0 ?_
      refine held_take (i := 7) (o := { dst := some 19, op := Op.load 3 (Operand.tmp 18), type := 3, pos := "tree.go:33", after := #[{ on := 6, ground := Ground.data }], guard := none }) (v := .int .i64 (it.o.k : Int)) (by kernel_rfl) (by kernel_rfl) (by kernel_rfl) (by kernel_rfl) (fun _ _ _ h => h) (by kernel_rfl) (fun _ h => ex_l1_int (p := ⟨wr.heap.size, 0 + 3, none⟩) rfl (by kernel_rfl) (h.it.c3)) hH0 ?_
      refine held_callX (i := 4) (o := { dst := some 16, op := Op.call { callee := Callee.value (Operand.func 38), args := #[Operand.tmp 15], argTypes := #[24] }, type := 24, pos := "tree.go:33", after := #[{ on := 3, ground := Ground.data }], guard := none }) (F := 38) (vs := #[.slice pa pn pc]) (by kernel_rfl) (by kernel_rfl) (by kernel_rfl) (fun _ => by kernel_rfl) (cloneSl_any (.slice pa pn pc) it.o.p _ (U.strsAt_below hpx bA.drew (Nat.le_refl _)) hsz1) ?_
      rintro e w1 ⟨ra, rn, rk, rfl, hoc, hb1⟩
      have hH1 := hH0.on hb1
      refine ⟨.slice ra rn rk, rfl, hH1, ?_⟩
      refine held_callX (i := 8) (o := { dst := some 20, op := Op.call { callee := Callee.value (Operand.func 72), args := #[Operand.tmp 19], argTypes := #[3] }, type := 3, pos := "tree.go:33", after := #[{ on := 7, ground := Ground.data }, { on := 4, ground := Ground.chain }], guard := none }) (F := 72) (vs := #[.int .i64 (it.o.k : Int)]) (by kernel_rfl) (by kernel_rfl) (by kernel_rfl) (fun _ => by kernel_rfl) (leafB_any it.o.k _) ?_
      rintro e w2 ⟨rfl, hb2⟩
      have hH2 := hH1.on hb2
      refine ⟨.int .i64 (Os.leaf it.o.k), rfl, hH2, ?_⟩
      refine held_take (i := 9) (o := { dst := some 21, op := Op.build 85 #[(0, Operand.tmp 16), (1, Operand.tmp 20)], type := 85, pos := "tree.go:33", after := #[{ on := 4, ground := Ground.data }, { on := 8, ground := Ground.data }], guard := none }) (v := .agg #[.slice ra rn rk, .int .i64 (Os.leaf it.o.k)]) (by kernel_rfl) (by kernel_rfl) (by kernel_rfl) (by kernel_rfl) (fun _ _ _ h => h) (by kernel_rfl) (fun _ _ => by kernel_rfl) hH2 ?_
      have hH3 := hH2.on (below_new w2 (.cells #[.slice ra rn rk, .int .i64 (Os.leaf it.o.k)] 85))
      have hown9 := own_on hown (bchain bA (bchain (Below.refl _ _).drew (bchain hb1 (bchain hb2 (below_new w2 (.cells #[.slice ra rn rk, .int .i64 (Os.leaf it.o.k)] 85))))))
      have hoc9 := own_on hoc (bchain hb2 (below_new w2 (.cells #[.slice ra rn rk, .int .i64 (Os.leaf it.o.k)] 85)))
      have HLo9 : ∀ x ∈ acc, LOwn (w2.alloc (.cells #[.slice ra rn rk, .int .i64 (Os.leaf it.o.k)] 85)) w.heap.size x := fun x hx => own_on (HLo.out x hx) (bchain bA (bchain (Below.refl _ _).drew (bchain hb1 (bchain hb2 (below_new w2 (.cells #[.slice ra rn rk, .int .i64 (Os.leaf it.o.k)] 85))))))
      refine held_run (i := 10) (o := { dst := some 22, op := Op.buildSlice 82 1 #[(0, Operand.tmp 21)], type := 82, pos := "tree.go:33", after := #[{ on := 9, ground := Ground.data }], guard := none }) (v := .slice (some ⟨w2.heap.size, 0, none⟩) 1 1) (w' := (w2.alloc (.cells #[.slice ra rn rk, .int .i64 (Os.leaf it.o.k)] 85))) (by kernel_rfl) (by kernel_rfl) (by kernel_rfl) (by kernel_rfl) hH3 ?_
      refine held_wp (i := 11) (o := { dst := some 23, op := Op.call { callee := Callee.builtin Builtin.append, args := #[Operand.tmp 12, Operand.tmp 22], argTypes := #[82, 82] }, type := 82, pos := "tree.go:33", after := #[{ on := 0, ground := Ground.data }, { on := 10, ground := Ground.data }, { on := 8, ground := Ground.chain }], guard := none }) (R := fun v' w' => w'.ownsRow w.heap.size 85 2 v' (acc ++ [(((it.o.p, Os.leaf it.o.k), .slice ra rn rk) : LE)]).length ((acc ++ [(((it.o.p, Os.leaf it.o.k), .slice ra rn rk) : LE)]).flatMap lcell) ∧ World.grownBy (w2.alloc (.cells #[.slice ra rn rk, .int .i64 (Os.leaf it.o.k)] 85)) w' u3.ownBlock) (by kernel_rfl) (by kernel_rfl) (by kernel_rfl) (fun K9 Q9 hK9 => wp_append_one (f := lcell) (m := 2) lcell_len (Nat.succ_pos 1) (ST := 82) (T := 85) Tryz.underlying82 hi0 hz0 hz1 hz2 rfl (by decide) _ _ rfl w.heap.size (hH3.low) u3 acc (by kernel_rfl) hown9 w2.heap.size (((it.o.p, Os.leaf it.o.k), .slice ra rn rk) : LE) (by kernel_rfl) (new_cells w2 (lcell (((it.o.p, Os.leaf it.o.k), .slice ra rn rk) : LE)) 85) (lcell_one ⟨_, _, _, rfl⟩) hroom hK9) ?_
      rintro v2 w3 ⟨hown2, hg2⟩
      have hH4 := hH3.grown hg2 hown9
      refine ⟨hH4, ?_⟩
      refine held_do (i := 12) (o := { dst := some 3, op := Op.assign (Operand.tmp 23), type := 82, pos := "tree.go:33", after := #[{ on := 11, ground := Ground.data }, { on := 11, ground := Ground.chain }, { on := 0, ground := Ground.phase }, { on := 1, ground := Ground.phase }, { on := 2, ground := Ground.phase }, { on := 3, ground := Ground.phase }, { on := 4, ground := Ground.phase }, { on := 5, ground := Ground.phase }, { on := 6, ground := Ground.phase }, { on := 7, ground := Ground.phase }, { on := 8, ground := Ground.phase }, { on := 9, ground := Ground.phase }, { on := 10, ground := Ground.phase }, { on := 11, ground := Ground.phase }], guard := none }) (v := v2) (by kernel_rfl) (by kernel_rfl) (by kernel_rfl) (by kernel_rfl) hH4 ?_
      refine wpAnyH_done (by kernel_rfl) ?_ _
      simp only [Act.put, List.setIfInBounds_toArray, List.set_cons_zero, List.set_cons_succ]
      go_wp2
      go_roundw
      case rel => exact ⟨k + 1, acc ++ [(((it.o.p, Os.leaf it.o.k), .slice ra rn rk) : LE)], by omega, by go_num, HE.out (.slice ra rn rk), hown2, fun x hx => by
        rcases List.mem_append.1 hx with hx | hx
        · exact own_grown_other (HLo9 x hx) hg2 (own_types (HLo9 x hx) hown9 (by decide))
        · rw [List.mem_singleton.1 hx]
          exact own_grown_other (own_base hoc9 hBs) hg2 (own_types hoc9 hown9 (by decide)), hH4.below⟩
      case measure => simp [intOf]; omega
    · have HE : Hid (acc.map Prod.fst = (xs.map (·.1)).map Tr.leafOf) := by
        have h := HA.out
        rw [List.take_of_length_le (by rw [← HN.out]; omega)] at h
        rw [List.map_map]
        exact h
      have hfin : ∀ x ∈ acc, LFine x.1 := fun x hx => by
        have h1 : x.1 ∈ acc.map Prod.fst := List.mem_map.2 ⟨x, hx, rfl⟩
        rw [HA.out, List.mem_map] at h1
        obtain ⟨y, hy, e⟩ := h1
        rw [← e]
        have h2 := short_sizes (HS.out y (List.mem_of_mem_take hy))
        exact ⟨leaf_small _, h2.1, h2.2⟩
      have hal9 : acc.length ≤ 1000000 := by omega
      have hsep : ∀ x ∈ acc, ∀ g, u3.ownBlock = some g → x.2.ownBlock ≠ some g := fun x hx => own_types (HLo.out x hx) hown (by decide)
      have HC := sortL_any u3 acc w.heap.size w wr hbw (rowR.of_own lcell_len hown) hfin HLo.out hsep hal9
      have HCC : Hid (∀ ys w1, ys.Perm acc → rowR lcell 2 w1 w.heap.size u3 ys → (∀ x ∈ ys, LOwn w1 w.heap.size x) → Below w.heap.size w w1 → Calls Tryz.prog 75 #[u3, .func (.func 76) #[] #[]] w1 fun e w' => ∃ r zs, e = .returned r ∧ zs.map Prod.fst = Li.thin (ys.map Prod.fst) ∧ (∀ x ∈ zs, x ∈ ys) ∧ lvsE w' r zs ∧ Below w.heap.size w w') := by
        have h : ∀ ys w1, ys.Perm acc → rowR lcell 2 w1 w.heap.size u3 ys → (∀ x ∈ ys, LOwn w1 w.heap.size x) → Below w.heap.size w w1 → Calls Tryz.prog 75 #[u3, .func (.func 76) #[] #[]] w1 fun e w' => ∃ r zs, e = .returned r ∧ zs.map Prod.fst = Li.thin (ys.map Prod.fst) ∧ (∀ x ∈ zs, x ∈ ys) ∧ lvsE w' r zs ∧ Below w.heap.size w w' := fun ys w1 hp h1 h2 h3 =>
          compactLR_any u3 ys w.heap.size w w1 h3 h1 (by rw [hp.length_eq]; exact hal9) (fun x hx => hfin x (hp.mem_iff.1 hx)) h2 (fun x hx => hsep x (hp.mem_iff.1 hx))
        exact h
      have HT : Hid (∀ ys : List LE, ys.Perm acc → (ys.Pairwise fun a b => Tr.lcomp a.1 b.1 ≤ 0) → Li.thin (ys.map Prod.fst) = Tr.leaves (xs.map (·.1))) := by
        have h : ∀ ys : List LE, ys.Perm acc → (ys.Pairwise fun a b => Tr.lcomp a.1 b.1 ≤ 0) → Li.thin (ys.map Prod.fst) = Tr.leaves (xs.map (·.1)) := fun ys hp hs => by
          have h1 := hp.map Prod.fst
          rw [HE.out] at h1
          exact thin_leaves h1 hs
        exact h
      clear HA hown hal hroom hsep hfin
      go_wp2_with (first
        | (go_at_call 73; refine HC.mono ?_; rintro e w1 ⟨rfl, ys, hp1, hs1, hr1, ho1, hb1⟩; have HT1 := HT.out ys hp1 hs1; have HC1 := HCC.out ys w1 hp1 hr1 ho1 hb1; clear hp1 hs1 hr1 ho1)
        | (go_at_call 75; refine HC1.mono ?_; rintro e w2 ⟨r, zs, rfl, hz1, -, hz3, hb2⟩))
      go_ret
      exact ⟨_, zs, rfl, by rw [hz1, HT1], hz3, hb2⟩
end Go.Proofs.YthlhopdlkkeohaaGreatDoor.O

