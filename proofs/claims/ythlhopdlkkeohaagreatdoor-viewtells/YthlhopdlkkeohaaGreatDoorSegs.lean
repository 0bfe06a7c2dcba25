/- Items that rise by their leaves, taken leaf by leaf: what is there to be seen of them is what is there of the first leaf's items, and then of the rest; the order of the items is nothing to a view. -/
import Derived.Test.YthlhopdlkkeohaaGreatDoorRegsAll
namespace Go.Proofs.YthlhopdlkkeohaaGreatDoor
namespace Vw

/-- Items that rise by their leaves. -/
abbrev Up (l : List Lv.Item) : Prop := l.Pairwise fun a b => Tr.lcomp (Tr.leafOf a) (Tr.leafOf b) ≤ 0

theorem sum_perm {a b : List Int} (h : a.Perm b) : a.sum = b.sum := by
  induction h with
  | nil => rfl
  | cons x _ ih => rw [List.sum_cons, List.sum_cons, ih]
  | swap x y l => rw [List.sum_cons, List.sum_cons, List.sum_cons, List.sum_cons]; omega
  | trans _ _ ih1 ih2 => exact ih1.trans ih2
theorem leaves_perm {a b : List Lv.Item} (h : a.Perm b) : Tr.leaves a = Tr.leaves b := by
  refine Li.rise_eq Tr.lord (Li.vals_rise Tr.lord _) (Li.vals_rise Tr.lord _) fun x => ?_
  show x ∈ Tr.leaves a ↔ x ∈ Tr.leaves b
  rw [Tr.mem_leaves, Tr.mem_leaves]
  exact exists_congr fun i => and_congr_left fun _ => h.mem_iff
/-- What is at a leaf is what its own items tell. -/
theorem at_same {a b : List Lv.Item} {p : List (List UInt8)} {k : Int} (h : Lv.atLeaf a p k = Lv.atLeaf b p k) : at' a p k = at' b p k := by
  have e1 : vals a p k = vals b p k := by unfold vals; rw [h]
  unfold at'
  rw [e1]
  by_cases h3 : k = 3
  · subst h3
    have e2 : sum a p = sum b p := by unfold sum Tr.nums; rw [h]
    rw [e2]
  · rw [if_neg h3, if_neg h3]
theorem vals_perm {a b : List Lv.Item} (h : a.Perm b) (p : List (List UInt8)) (k : Int) : vals a p k = vals b p k := by
  unfold vals
  refine Rg.rise_eq (Rg.vals_rise _) (Rg.vals_rise _) fun x => ?_
  rw [Rg.mem_vals, Rg.mem_vals]
  exact ((h.filter _).map _).mem_iff
theorem total_perm {a b : List Lv.Item} (h : a.Perm b) (p : List (List UInt8)) : sum a p = sum b p := by
  unfold sum Tr.nums
  exact sum_perm ((h.filter _).map _)
theorem at_perm {a b : List Lv.Item} (h : a.Perm b) (p : List (List UInt8)) (k : Int) : at' a p k = at' b p k := by
  unfold at'
  rw [vals_perm h, total_perm h]
theorem of_perm {a b : List Lv.Item} (h : a.Perm b) : of a = of b := by
  unfold of
  rw [leaves_perm h]
  exact List.map_congr_left fun x _ => at_perm h x.1 x.2

/-- The first n items, and no more, stand at a leaf. -/
def Run (x : Tr.Leaf) (l : List Lv.Item) (n : Nat) : Prop := n ≤ l.length ∧ (∀ j, ∀ h : j < l.length, j < n → Tr.leafOf l[j] = x) ∧ ∀ h : n < l.length, Tr.leafOf l[n] ≠ x
/-- So far all of them do. -/
def Runs (x : Tr.Leaf) (l : List Lv.Item) (n : Nat) : Prop := n ≤ l.length ∧ ∀ j, ∀ h : j < l.length, j < n → Tr.leafOf l[j] = x
theorem runs_zero (x : Tr.Leaf) (l : List Lv.Item) : Runs x l 0 := ⟨Nat.zero_le _, fun _ _ h => absurd h (Nat.not_lt_zero _)⟩
theorem Runs.step {x : Tr.Leaf} {l : List Lv.Item} {n : Nat} (h : Runs x l n) (hn : n < l.length) (he : Tr.leafOf l[n] = x) : Runs x l (n + 1) := ⟨hn, fun j hj hjn => by
  by_cases e : j = n
  · subst e; exact he
  · exact h.2 j hj (by omega)⟩
theorem Runs.stop {x : Tr.Leaf} {l : List Lv.Item} {n : Nat} (h : Runs x l n) (he : ∀ hn : n < l.length, Tr.leafOf l[n] ≠ x) : Run x l n := ⟨h.1, h.2, he⟩

theorem Up.drop {l : List Lv.Item} (h : Up l) (n : Nat) : Up (l.drop n) := List.Pairwise.sublist (List.drop_sublist n l) h
theorem split {l : List Lv.Item} (hu : Up l) {x : Tr.Leaf} {t : List Tr.Leaf} (hl : Tr.leaves l = x :: t) {n : Nat} (hn : Run x l n) :
    of l = at' (l.take n) x.1 x.2 :: of (l.drop n) ∧ Tr.leaves (l.drop n) = t := by
  have hr : Li.Rise Tr.lcomp (x :: t) := by rw [← hl]; exact Li.vals_rise Tr.lord _
  have hxt : ∀ y ∈ t, Li.lt Tr.lcomp x y := (List.pairwise_cons.1 hr).1
  have hmem : ∀ {y}, y ∈ x :: t ↔ ∃ i ∈ l, Tr.leafOf i = y := by intro y; rw [← hl]; exact Tr.mem_leaves
  have ha : ∀ i ∈ l.take n, Tr.leafOf i = x := fun i hi => by
    obtain ⟨j, hj, e⟩ := List.mem_iff_getElem.1 hi
    have hj' : j < n ∧ j < l.length := by rw [List.length_take] at hj; omega
    rw [List.getElem_take] at e
    rw [← e]
    exact hn.2.1 j hj'.2 hj'.1
  have hb : ∀ i ∈ l.drop n, Tr.leafOf i ≠ x := fun i hi e => by
    obtain ⟨j, hj, e2⟩ := List.mem_iff_getElem.1 hi
    have hj' : n + j < l.length := by rw [List.length_drop] at hj; omega
    have hn' : n < l.length := by omega
    rw [List.getElem_drop] at e2
    have hne := hn.2.2 hn'
    have hm : Tr.leafOf l[n] ∈ x :: t := hmem.2 ⟨l[n], List.getElem_mem hn', rfl⟩
    have hlt : Li.lt Tr.lcomp x (Tr.leafOf l[n]) := by
      rcases List.mem_cons.1 hm with q | q
      · exact absurd q hne
      · exact hxt _ q
    by_cases h0 : j = 0
    · subst h0
      have e3 : l[n] = i := e2
      rw [e3] at hne
      exact hne e
    · have hle := List.pairwise_iff_getElem.1 hu n (n + j) hn' hj' (by omega)
      rw [e2, e] at hle
      rcases (Tr.lord.le_iff).1 hle with q | q
      · exact Tr.lord.not hlt q
      · exact hne q
  have hlb : Tr.leaves (l.drop n) = t := by
    refine Li.rise_eq Tr.lord (Li.vals_rise Tr.lord _) (List.pairwise_cons.1 hr).2 fun y => ?_
    show y ∈ Tr.leaves (l.drop n) ↔ y ∈ t
    rw [Tr.mem_leaves]
    constructor
    · rintro ⟨i, hi, rfl⟩
      rcases List.mem_cons.1 (hmem.2 ⟨i, List.mem_of_mem_drop hi, rfl⟩) with q | q
      · exact absurd q (hb i hi)
      · exact q
    · intro hy
      obtain ⟨i, hi, rfl⟩ := hmem.1 (List.mem_cons_of_mem _ hy)
      refine ⟨i, ?_, rfl⟩
      rw [← List.take_append_drop n l] at hi
      rcases List.mem_append.1 hi with q | q
      · have := hxt _ hy
        rw [ha i q] at this
        exact absurd this (Tr.lord.irrefl x)
      · exact q
  have hcut : ∀ p k, Lv.atLeaf l p k = Lv.atLeaf (l.take n) p k ++ Lv.atLeaf (l.drop n) p k := fun p k => by
    unfold Lv.atLeaf
    rw [← List.filter_append, List.take_append_drop]
  have hb0 : Lv.atLeaf (l.drop n) x.1 x.2 = [] := by
    rw [List.eq_nil_iff_forall_not_mem]
    intro i hi
    obtain ⟨h1, h2⟩ := Tr.mem_atLeaf.1 hi
    exact hb i h1 h2
  have ha0 : ∀ y ∈ t, Lv.atLeaf (l.take n) y.1 y.2 = [] := fun y hy => by
    rw [List.eq_nil_iff_forall_not_mem]
    intro i hi
    obtain ⟨h1, h2⟩ := Tr.mem_atLeaf.1 hi
    have h3 : x = y := (ha i h1).symm.trans h2
    have := hxt y hy
    rw [← h3] at this
    exact Tr.lord.irrefl x this
  refine ⟨?_, hlb⟩
  unfold of
  rw [hl, hlb, List.map_cons]
  exact List.cons_eq_cons.2 ⟨at_same (by rw [hcut, hb0, List.append_nil]), List.map_congr_left fun y hy => at_same (by rw [hcut, ha0 y hy, List.nil_append])⟩
theorem of_nil {l : List Lv.Item} (h : Tr.leaves l = []) : of l = [] := by
  unfold of
  rw [h]
  rfl
end Vw
end Go.Proofs.YthlhopdlkkeohaaGreatDoor
