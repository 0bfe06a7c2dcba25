/- Matrices as plain mathematics: sixteen rows of sixteen numbers, one behind the other; what is learnt, joined, the frontier, what is stable, how far a row is behind. -/
import Derived.Test.YtmifkfeobdnocaaEach
namespace Go.Proofs.Ytmifkfeobdnocaa
namespace Mx

/-- A row, and a matrix with another row there. -/
def row (m : List Int) (i : Nat) : List Int := (m.drop (i * 16)).take 16
def put (m : List Int) (i : Nat) (v : List Int) : List Int := m.take (i * 16) ++ v ++ m.drop (i * 16 + 16)
theorem row_length {m : List Int} (hm : m.length = 256) {i : Nat} (hi : i < 16) : (row m i).length = 16 := by simp [row, hm]; omega
theorem row_at {m : List Int} {i k : Nat} (hk : k < 16) : (row m i).getD k 0 = m.getD (i * 16 + k) 0 := by simp [row, List.getD, List.getElem?_drop, hk]
theorem put_length {m v : List Int} {i : Nat} (hm : m.length = 256) (hi : i < 16) (hv : v.length = 16) : (put m i v).length = 256 := by simp [put, hm, hv]; omega
theorem put_get {m v : List Int} {i : Nat} (hm : m.length = 256) (hi : i < 16) (hv : v.length = 16) (j : Nat) : (put m i v)[j]? = if j < i * 16 then m[j]? else if j < i * 16 + 16 then v[j - i * 16]? else m[j]? := by
  unfold put
  have h1 : (m.take (i * 16)).length = i * 16 := by rw [List.length_take]; omega
  by_cases a : j < i * 16
  · rw [if_pos a, List.append_assoc, List.getElem?_append_left (by omega), List.getElem?_take, if_pos a]
  · rw [if_neg a]
    by_cases b : j < i * 16 + 16
    · rw [if_pos b, List.append_assoc, List.getElem?_append_right (by omega), h1, List.getElem?_append_left (by omega)]
    · rw [if_neg b, List.getElem?_append_right (by simp; omega), List.getElem?_drop]
      congr 1
      simp only [List.length_append, h1, hv]
      omega
theorem put_at {m v : List Int} {i : Nat} (hm : m.length = 256) (hi : i < 16) (hv : v.length = 16) (j : Nat) : (put m i v).getD j 0 = if j < i * 16 then m.getD j 0 else if j < i * 16 + 16 then v.getD (j - i * 16) 0 else m.getD j 0 := by
  rw [List.getD_eq_getElem?_getD, put_get hm hi hv j]
  by_cases a : j < i * 16
  · rw [if_pos a, if_pos a, List.getD_eq_getElem?_getD]
  · rw [if_neg a, if_neg a]
    by_cases b : j < i * 16 + 16
    · rw [if_pos b, if_pos b, List.getD_eq_getElem?_getD]
    · rw [if_neg b, if_neg b, List.getD_eq_getElem?_getD]
theorem row_put_same {m v : List Int} {i : Nat} (hm : m.length = 256) (hi : i < 16) (hv : v.length = 16) : row (put m i v) i = v := by
  refine Vc.same_of (by rw [row_length (put_length hm hi hv) hi, hv]) fun k hk => ?_
  rw [row_length (put_length hm hi hv) hi] at hk
  rw [row_at hk, put_at hm hi hv, if_neg (by omega), if_pos (by omega)]
  congr 1
  omega
theorem row_put_other {m v : List Int} {i j : Nat} (hm : m.length = 256) (hi : i < 16) (hv : v.length = 16) (hj : j < 16) (h : j ≠ i) : row (put m i v) j = row m j := by
  refine Vc.same_of (by rw [row_length (put_length hm hi hv) hj, row_length hm hj]) fun k hk => ?_
  rw [row_length (put_length hm hi hv) hj] at hk
  rw [row_at hk, row_at hk, put_at hm hi hv]
  by_cases a : j * 16 + k < i * 16
  · rw [if_pos a]
  · rw [if_neg a, if_neg (by omega)]
/-- Two matrices are the same, if their rows are. -/
theorem same_of {a b : List Int} (ha : a.length = 256) (hb : b.length = 256) (h : ∀ i, i < 16 → row a i = row b i) : a = b := by
  refine Vc.same_of (ha.trans hb.symm) fun k hk => ?_
  have e := Vc.at_same (h (k / 16) (by omega)) (k % 16)
  rw [row_at (by omega), row_at (by omega), show k / 16 * 16 + k % 16 = k by omega] at e
  exact e

/-- What is learnt. -/
def learn (m : List Int) (i : Int) (v : List Int) : List Int := if 0 ≤ i ∧ i < 16 then put m i.toNat (Vc.join (row m i.toNat) v) else m
theorem learn_in {m v : List Int} {k : Nat} (hk : k < 16) : learn m (k : Int) v = put m k (Vc.join (row m k) v) := by
  unfold learn
  rw [if_pos (by omega)]
  rfl
theorem learn_out {m v : List Int} {i : Int} (h : ¬ (0 ≤ i ∧ i < 16)) : learn m i v = m := if_neg h
theorem jrow {m v : List Int} {k : Nat} (hm : m.length = 256) (hk : k < 16) : (Vc.join (row m k) v).length = 16 := by rw [Vc.join_length, row_length hm hk]
theorem learn_length {m v : List Int} {i : Int} (hm : m.length = 256) : (learn m i v).length = 256 := by
  by_cases h : 0 ≤ i ∧ i < 16
  · obtain ⟨k, rfl⟩ : ∃ k : Nat, i = (k : Int) := ⟨i.toNat, by omega⟩
    rw [learn_in (by omega)]
    exact put_length hm (by omega) (jrow hm (by omega))
  · rw [learn_out h, hm]
/-- The row that is told; none's is the zero vector. -/
def rowOf (m : List Int) (i : Int) : List Int := if 0 ≤ i ∧ i < 16 then row m i.toNat else noughts
theorem rowOf_in {m : List Int} {k : Nat} (hk : k < 16) : rowOf m (k : Int) = row m k := by
  unfold rowOf
  rw [if_pos (by omega)]
  rfl
theorem rowOf_out {m : List Int} {i : Int} (h : ¬ (0 ≤ i ∧ i < 16)) : rowOf m i = noughts := if_neg h
theorem rowOf_length {m : List Int} {i : Int} (hm : m.length = 256) : (rowOf m i).length = 16 := by
  by_cases h : 0 ≤ i ∧ i < 16
  · obtain ⟨k, rfl⟩ : ∃ k : Nat, i = (k : Int) := ⟨i.toNat, by omega⟩
    rw [rowOf_in (by omega), row_length hm (by omega)]
  · rw [rowOf_out h, noughts_length]

/-- The first k rows are joined with another matrix's. -/
def joins (m o : List Int) : Nat → List Int
  | 0 => m
  | k + 1 => put (joins m o k) k (Vc.join (row (joins m o k) k) (row o k))
theorem joins_length {m o : List Int} (hm : m.length = 256) : ∀ k, k ≤ 16 → (joins m o k).length = 256
  | 0, _ => hm
  | k + 1, h => put_length (joins_length hm k (by omega)) (by omega) (jrow (joins_length hm k (by omega)) (by omega))
theorem joins_row {m o : List Int} (hm : m.length = 256) : ∀ k, k ≤ 16 → ∀ i, i < 16 → row (joins m o k) i = if i < k then Vc.join (row m i) (row o i) else row m i
  | 0, _, i, _ => by simp [joins]
  | k + 1, h, i, hi => by
    have ih := joins_row (o := o) hm k (by omega)
    have hl := joins_length (o := o) hm k (by omega)
    unfold joins
    by_cases e : i = k
    · subst e
      rw [row_put_same hl hi (jrow hl hi), ih i hi, if_neg (by omega), if_pos (by omega)]
    · rw [row_put_other hl (by omega) (jrow hl (by omega)) hi e, ih i hi]
      by_cases a : i < k
      · rw [if_pos a, if_pos (by omega)]
      · rw [if_neg a, if_neg (by omega)]
theorem joins_all {m o : List Int} (hm : m.length = 256) {i : Nat} (hi : i < 16) : row (joins m o 16) i = Vc.join (row m i) (row o i) := by rw [joins_row hm 16 (by omega) i hi, if_pos hi]
theorem joins_turn {a b : List Int} (ha : a.length = 256) (hb : b.length = 256) : joins a b 16 = joins b a 16 :=
  same_of (joins_length ha 16 (by omega)) (joins_length hb 16 (by omega)) fun i hi => by
    rw [joins_all ha hi, joins_all hb hi, Vc.join_turn _ _ (by rw [row_length ha hi, row_length hb hi])]
theorem joins_again {a b : List Int} (ha : a.length = 256) (hb : b.length = 256) : joins (joins a b 16) a 16 = joins a b 16 :=
  same_of (joins_length (joins_length ha 16 (by omega)) 16 (by omega)) (joins_length ha 16 (by omega)) fun i hi => by
    have e : (row a i).length = (row b i).length := by rw [row_length ha hi, row_length hb hi]
    rw [joins_all (joins_length ha 16 (by omega)) hi, joins_all ha hi, Vc.join_turn (Vc.join _ _) _ (by rw [Vc.join_length]), ← Vc.join_on _ _ _ rfl, Vc.join_self]

/-- What the first k + 1 rows make together. -/
def fold (f : List Int → List Int → List Int) (m : List Int) : Nat → List Int
  | 0 => row m 0
  | k + 1 => f (fold f m k) (row m (k + 1))
theorem meets_length {m : List Int} (hm : m.length = 256) : ∀ k, k < 16 → (fold Vc.meet m k).length = 16
  | 0, _ => row_length hm (by omega)
  | k + 1, h => by unfold fold; rw [Vc.meet_length, meets_length hm k (by omega)]
theorem folds_length {m : List Int} (hm : m.length = 256) : ∀ k, k < 16 → (fold Vc.join m k).length = 16
  | 0, _ => row_length hm (by omega)
  | k + 1, h => by unfold fold; rw [Vc.join_length, folds_length hm k (by omega)]
/-- Of the first k + 1 rows the least number at a place. -/
def least (m : List Int) (j : Nat) : Nat → Int
  | 0 => (row m 0).getD j 0
  | k + 1 => min (least m j k) ((row m (k + 1)).getD j 0)
theorem meets_at {m : List Int} (hm : m.length = 256) {j : Nat} (hj : j < 16) : ∀ k, k < 16 → (fold Vc.meet m k).getD j 0 = least m j k
  | 0, _ => rfl
  | k + 1, h => by
    unfold fold least
    rw [Vc.meet_at _ _ j (by rw [meets_length hm k (by omega)]; exact hj), meets_at hm hj k (by omega)]
/-- What all of the first n rows have; none's is the zero vector. -/
def frontier (m : List Int) (n : Int) : List Int := if 1 ≤ n ∧ n ≤ 16 then fold Vc.meet m (n.toNat - 1) else noughts
theorem frontier_in {m : List Int} {k : Nat} (hk : k < 16) : frontier m ((k : Int) + 1) = fold Vc.meet m k := by
  unfold frontier
  rw [if_pos (by omega)]
  congr 1
theorem frontier_out {m : List Int} {n : Int} (h : ¬ (1 ≤ n ∧ n ≤ 16)) : frontier m n = noughts := if_neg h
theorem frontier_length {m : List Int} {n : Int} (hm : m.length = 256) : (frontier m n).length = 16 := by
  by_cases h : 1 ≤ n ∧ n ≤ 16
  · obtain ⟨k, rfl⟩ : ∃ k : Nat, n = (k : Int) + 1 := ⟨n.toNat - 1, by omega⟩
    rw [frontier_in (by omega), meets_length hm k (by omega)]
  · rw [frontier_out h, noughts_length]

theorem learn_rises {m v : List Int} {i : Int} (hm : m.length = 256) {r k : Nat} (hr : r < 16) (hk : k < 16) : (row m r).getD k 0 ≤ (row (learn m i v) r).getD k 0 := by
  by_cases h : 0 ≤ i ∧ i < 16
  · obtain ⟨j, rfl⟩ : ∃ j : Nat, i = (j : Int) := ⟨i.toNat, by omega⟩
    rw [learn_in (by omega)]
    by_cases e : r = j
    · subst e
      rw [row_put_same hm hr (jrow hm hr), Vc.join_at _ _ k (by rw [row_length hm hr]; exact hk)]
      omega
    · rw [row_put_other hm (by omega) (jrow hm (by omega)) hr e]
      exact Int.le_refl _
  · rw [learn_out h]
    exact Int.le_refl _
theorem least_rises {m v : List Int} {i : Int} (hm : m.length = 256) {j : Nat} (hj : j < 16) : ∀ k, k < 16 → least m j k ≤ least (learn m i v) j k
  | 0, _ => learn_rises hm (by omega) hj
  | k + 1, h => by
    have h1 := least_rises (v := v) (i := i) hm hj k (by omega)
    have h2 := learn_rises (v := v) (i := i) hm h hj
    unfold least
    omega
/-- What is learnt only raises the frontier. -/
theorem frontier_rises {m v : List Int} {i n : Int} (hm : m.length = 256) : Vc.within (frontier m n) (frontier (learn m i v) n) = true := by
  rw [Vc.within_iff]
  intro j hj
  rw [frontier_length hm] at hj
  by_cases h : 1 ≤ n ∧ n ≤ 16
  · obtain ⟨k, rfl⟩ : ∃ k : Nat, n = (k : Int) + 1 := ⟨n.toNat - 1, by omega⟩
    rw [frontier_in (by omega), frontier_in (by omega), meets_at hm hj k (by omega), meets_at (learn_length hm) hj k (by omega)]
    exact least_rises hm hj k (by omega)
  · rw [frontier_out h, frontier_out h]
    exact Int.le_refl _
theorem stable_stays {m v : List Int} {i n r d : Int} (hm : m.length = 256) (h : Vc.has (frontier m n) r d = true) : Vc.has (frontier (learn m i v) n) r d = true :=
  Vc.has_within _ _ r d (frontier_length hm) (frontier_rises hm) h

/-- Have all of the first k rows a dot? -/
def allHave (m : List Int) (r d : Int) : Nat → Bool
  | 0 => true
  | k + 1 => allHave m r d k && Vc.has (row m k) r d
theorem has_meets {m : List Int} (hm : m.length = 256) (r d : Int) : ∀ k, k < 16 → Vc.has (fold Vc.meet m k) r d = allHave m r d (k + 1)
  | 0, _ => by simp [fold, allHave]
  | k + 1, h => by
    have ih := has_meets hm r d k (by omega)
    unfold fold
    rw [Vc.has_meet _ _ r d (meets_length hm k (by omega)), ih]
    rfl
theorem noughts_at (k : Nat) : noughts.getD k 0 = 0 := by
  rw [List.getD_eq_getElem?_getD, noughts, List.getElem?_replicate]
  split <;> rfl
theorem has_noughts (r d : Int) : Vc.has noughts r d = false := by
  rw [Bool.eq_false_iff]
  intro h
  have h1 := Vc.has_iff.1 h
  have h2 := Dt.right_iff.1 h1.1
  have h3 : noughts.getD r.toNat 0 = 0 := noughts_at _
  rw [h3] at h1
  omega
/-- A dot is stable just if each of the first rows has it. -/
theorem stable_in {m : List Int} (hm : m.length = 256) (r d : Int) {k : Nat} (h1 : 1 ≤ k) (h2 : k ≤ 16) : Vc.has (frontier m (k : Int)) r d = allHave m r d k := by
  obtain ⟨j, rfl⟩ : ∃ j, k = j + 1 := ⟨k - 1, by omega⟩
  have := frontier_in (m := m) (k := j) (by omega)
  rw [show ((j + 1 : Nat) : Int) = (j : Int) + 1 by omega, this, has_meets hm r d j (by omega)]
theorem stable_out {m : List Int} (r d : Int) {n : Int} (h : ¬ (1 ≤ n ∧ n ≤ 16)) : Vc.has (frontier m n) r d = false := by rw [frontier_out h, has_noughts]
/-- The more replicas, the less is stable. -/
theorem stable_fewer {m : List Int} (hm : m.length = 256) (r d : Int) {n : Int} (h1 : 1 ≤ n) (h2 : n ≤ 15) (h : Vc.has (frontier m (n + 1)) r d = true) : Vc.has (frontier m n) r d = true := by
  obtain ⟨k, rfl⟩ : ∃ k : Nat, n = (k : Int) := ⟨n.toNat, by omega⟩
  have e := stable_in hm r d (k := k + 1) (by omega) (by omega)
  rw [show (((k + 1 : Nat) : Int)) = (k : Int) + 1 by omega, h] at e
  rw [stable_in hm r d (by omega) (by omega)]
  simp only [allHave] at e
  have := e.symm
  simp only [Bool.and_eq_true] at this
  exact this.1

/-- Are the first k rows right? -/
def rights (m : List Int) : Nat → Bool
  | 0 => true
  | k + 1 => rights m k && Vc.right (row m k)
theorem rights_row {m : List Int} : ∀ k, rights m k = true → ∀ i, i < k → Vc.right (row m i) = true
  | 0, _, i, hi => by omega
  | k + 1, h, i, hi => by
    simp only [rights, Bool.and_eq_true] at h
    by_cases e : i = k
    · subst e; exact h.2
    · exact rights_row k h.1 i (by omega)
theorem rights_of {m : List Int} : ∀ k, (∀ i, i < k → Vc.right (row m i) = true) → rights m k = true
  | 0, _ => rfl
  | k + 1, h => by
    simp only [rights, Bool.and_eq_true]
    exact ⟨rights_of k fun i hi => h i (by omega), h k (by omega)⟩
theorem right_num {m : List Int} (hm : m.length = 256) (hr : rights m 16 = true) {i j : Nat} (hi : i < 16) (hj : j < 16) : 0 ≤ (row m i).getD j 0 ∧ (row m i).getD j 0 ≤ 1048576 :=
  Vc.right_iff.1 (rights_row 16 hr i hi) j (by rw [row_length hm hi]; exact hj)
/-- Of the first k rows the greatest number at a place, and 0. -/
def most (m : List Int) (j : Nat) : Nat → Int
  | 0 => 0
  | k + 1 => max (most m j k) ((row m k).getD j 0)
theorem most_bound {m : List Int} (hm : m.length = 256) (hr : rights m 16 = true) {j : Nat} (hj : j < 16) : ∀ k, k ≤ 16 → 0 ≤ most m j k ∧ most m j k ≤ 1048576
  | 0, _ => by simp [most]
  | k + 1, h => by
    have := most_bound hm hr hj k (by omega)
    have := right_num hm hr (i := k) (by omega) hj
    unfold most
    omega
theorem most_ge {m : List Int} {j : Nat} : ∀ k i, i < k → (row m i).getD j 0 ≤ most m j k
  | 0, _, h => by omega
  | k + 1, i, h => by
    unfold most
    by_cases e : i = k
    · subst e; omega
    · have := most_ge (m := m) (j := j) k i (by omega)
      omega
theorem folds_at {m : List Int} (hm : m.length = 256) (hr : rights m 16 = true) {j : Nat} (hj : j < 16) : ∀ k, k < 16 → (fold Vc.join m k).getD j 0 = most m j (k + 1)
  | 0, _ => by
    have := right_num hm hr (i := 0) (by omega) hj
    simp only [fold, most]
    omega
  | k + 1, h => by
    have ih := folds_at hm hr hj k (by omega)
    unfold fold
    rw [Vc.join_at _ _ j (by rw [folds_length hm k (by omega)]; exact hj), ih]
    rfl
theorem folds_right {m : List Int} (hm : m.length = 256) (hr : rights m 16 = true) {k : Nat} (hk : k < 16) : Vc.right (fold Vc.join m k) = true := by
  rw [Vc.right_iff]
  intro j hj
  rw [folds_length hm k hk] at hj
  rw [folds_at hm hr hj k hk]
  exact most_bound hm hr hj (k + 1) (by omega)
theorem meet_right {a b : List Int} (h : Vc.right a = true) (h' : Vc.right b = true) (e : a.length = b.length) : Vc.right (Vc.meet a b) = true := by
  rw [Vc.right_iff]
  intro j hj
  rw [Vc.meet_length] at hj
  rw [Vc.meet_at a b j hj]
  have := Vc.right_iff.1 h j hj
  have := Vc.right_iff.1 h' j (by omega)
  omega
/-- How far the row i is behind the first n, place by place. -/
def behinds (m : List Int) (n i : Nat) : Nat → Int
  | 0 => 0
  | k + 1 => behinds m n i k + max 0 (most m k n - (row m i).getD k 0)
theorem behinds_bound {m : List Int} (hm : m.length = 256) (hr : rights m 16 = true) {n i : Nat} (hn : n ≤ 16) (hi : i < 16) : ∀ k, k ≤ 16 → 0 ≤ behinds m n i k ∧ behinds m n i k ≤ k * 1048576
  | 0, _ => by simp [behinds]
  | k + 1, h => by
    have := behinds_bound hm hr hn hi k (by omega)
    have := most_bound hm hr (j := k) (by omega) n hn
    have := right_num hm hr hi (j := k) (by omega)
    unfold behinds
    omega
theorem behinds_count {m : List Int} (hm : m.length = 256) (hr : rights m 16 = true) {n i : Nat} (hn : n < 16) (hi : i < 16) : ∀ k, k ≤ 16 →
    Vc.count (fold Vc.join m n) k - Vc.count (Vc.meet (fold Vc.join m n) (row m i)) k = behinds m (n + 1) i k
  | 0, _ => by simp [Vc.count, behinds]
  | k + 1, h => by
    have ih := behinds_count hm hr hn hi k (by omega)
    have h1 := folds_at hm hr (j := k) (by omega) n hn
    have h2 := most_bound hm hr (j := k) (by omega) (n + 1) (by omega)
    have h3 := right_num hm hr hi (j := k) (by omega)
    have h4 := Vc.meet_at (fold Vc.join m n) (row m i) k (by rw [folds_length hm n hn]; omega)
    unfold Vc.count behinds
    rw [h4, h1]
    omega
theorem behinds_rises {m : List Int} {n i : Nat} : ∀ k j, j < k → max 0 (most m j n - (row m i).getD j 0) ≤ behinds m n i k - behinds m n i j
  | 0, _, h => by omega
  | k + 1, j, h => by
    rw [behinds]
    by_cases e : j = k
    · subst e; omega
    · have := behinds_rises (m := m) (n := n) (i := i) k j (by omega)
      omega
/-- A row that is not behind has all that one of the first n has. -/
theorem not_behind {m : List Int} (hm : m.length = 256) (hr : rights m 16 = true) {n i : Nat} (hn : n ≤ 16) (hi : i < 16) (h : behinds m n i 16 = 0) {k : Nat} (hk : k < n) : Vc.within (row m k) (row m i) = true := by
  rw [Vc.within_iff]
  intro j hj
  rw [row_length hm (by omega)] at hj
  have h1 := behinds_rises (m := m) (n := n) (i := i) 16 j hj
  have h2 := behinds_bound hm hr hn hi j (by omega)
  have h3 := most_ge (m := m) (j := j) n k hk
  omega
/-- How far a row is behind; 0, unless there are such. -/
def behind (m : List Int) (n i : Int) : Int := if 1 ≤ n ∧ n ≤ 16 ∧ 0 ≤ i ∧ i < 16 then behinds m n.toNat i.toNat 16 else 0
theorem behind_in {m : List Int} {n i : Nat} (h1 : 1 ≤ n) (h2 : n ≤ 16) (h3 : i < 16) : behind m (n : Int) (i : Int) = behinds m n i 16 := by
  unfold behind
  rw [if_pos (by omega)]
  rfl
theorem behind_out {m : List Int} {n i : Int} (h : ¬ (1 ≤ n ∧ n ≤ 16 ∧ 0 ≤ i ∧ i < 16)) : behind m n i = 0 := if_neg h
end Mx
end Go.Proofs.Ytmifkfeobdnocaa
