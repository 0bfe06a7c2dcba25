/- Rows that rise, over any order (for stages 15 to 17): rows with the same members are the same, a thing in its place, neighbours that are the same as one, and how loops go that lay a thing in its place by shifting what stands behind it; sums of numbers above and below 0 · Bags, counters and trees as plain mathematics (for stages 15 to 17): what added a value, sums, leaves, keys, kinds, how deep, and what 17.2 says follows. -/
import Derived.Test.YthlhopdlkkeohaaGreatDoorChecked
import Derived.Test.YthlhopdlkkeohaaGreatDoorLivesAll
/- Rows that rise, over any order (for stages 15 to 17): rows with the same members are the same, a thing in its place, neighbours that are the same as one, and how loops go that lay a thing in its place by shifting what stands behind it; sums of numbers above and below 0. -/
namespace Go.Proofs.YthlhopdlkkeohaaGreatDoor
namespace Li
/-- An order: what a comparison must keep. -/
structure Ord {α : Type} (comp : α → α → Int) : Prop where
  zero : ∀ x y, comp x y = 0 ↔ x = y
  turn : ∀ x y, comp x y < 0 ↔ 0 < comp y x
  trans : ∀ x y z, comp x y < 0 → comp y z < 0 → comp x z < 0
section
variable {α : Type} {comp : α → α → Int}
abbrev lt (comp : α → α → Int) (x y : α) : Prop := comp x y < 0
theorem Ord.irrefl (o : Ord comp) (x : α) : ¬ lt comp x x := fun h => by
  have := (o.zero x x).2 rfl
  omega
theorem Ord.ne (o : Ord comp) {x y : α} (h : lt comp x y) : x ≠ y := fun e => o.irrefl x (by rw [← e] at h; exact h)
theorem Ord.not (o : Ord comp) {x y : α} (h : lt comp x y) : ¬ lt comp y x := fun k => o.irrefl x (o.trans _ _ _ h k)
theorem Ord.tri (o : Ord comp) (x y : α) : (lt comp x y) ∨ (x = y ∧ comp x y = 0) ∨ (lt comp y x ∧ 0 < comp x y) := by
  rcases Int.lt_trichotomy (comp x y) 0 with h | h | h
  · exact .inl h
  · exact .inr (.inl ⟨(o.zero x y).1 h, h⟩)
  · exact .inr (.inr ⟨(o.turn y x).2 h, h⟩)
theorem Ord.le_iff (o : Ord comp) {x y : α} : comp x y ≤ 0 ↔ lt comp x y ∨ x = y := by
  rcases o.tri x y with h | ⟨h, e⟩ | ⟨h, e⟩
  · exact ⟨fun _ => .inl h, fun _ => by omega⟩
  · exact ⟨fun _ => .inr h, fun _ => by omega⟩
  · exact ⟨fun k => by omega, fun k => by
      rcases k with k | k
      · exact absurd k (o.not h)
      · exact absurd k.symm (o.ne h)⟩

/-! ### Rows that rise -/
abbrev Rise (comp : α → α → Int) (l : List α) : Prop := l.Pairwise (lt comp)
theorem Rise.nodup (o : Ord comp) {l : List α} (h : Rise comp l) : l.Nodup := h.imp fun k => o.ne k
theorem Rise.at {l : List α} (h : Rise comp l) {a b : Nat} (hab : a < b) (hb : b < l.length) : lt comp (l[a]'(by omega)) l[b] := List.pairwise_iff_getElem.1 h a b (by omega) hb hab
theorem rise_eq (o : Ord comp) : ∀ {a b : List α}, Rise comp a → Rise comp b → (∀ x, x ∈ a ↔ x ∈ b) → a = b
  | [], [], _, _, _ => rfl
  | [], y :: b, _, _, h => absurd ((h y).2 (by simp)) (by simp)
  | x :: a, [], _, _, h => absurd ((h x).1 (by simp)) (by simp)
  | x :: a, y :: b, ha, hb, h => by
    obtain ⟨ha1, ha2⟩ := List.pairwise_cons.1 ha
    obtain ⟨hb1, hb2⟩ := List.pairwise_cons.1 hb
    have e : x = y := by
      rcases List.mem_cons.1 ((h x).1 (by simp)) with e | e
      · exact e
      · rcases List.mem_cons.1 ((h y).2 (by simp)) with e' | e'
        · exact e'.symm
        · exact absurd (ha1 y e') (o.not (hb1 x e))
    subst e
    rw [rise_eq o ha2 hb2 fun z => ?_]
    constructor
    · intro hz
      rcases List.mem_cons.1 ((h z).1 (by simp [hz])) with e | e
      · exact absurd (ha1 z hz) (by rw [e]; exact o.irrefl x)
      · exact e
    · intro hz
      rcases List.mem_cons.1 ((h z).2 (by simp [hz])) with e | e
      · exact absurd (hb1 z hz) (by rw [e]; exact o.irrefl x)
      · exact e

/-! ### A thing in its place -/
def ins (comp : α → α → Int) (v : α) : List α → List α
  | [] => [v]
  | x :: r => if comp v x = 0 then x :: r else if comp v x < 0 then v :: x :: r else x :: ins comp v r
theorem mem_ins (o : Ord comp) {v y : α} : ∀ {l : List α}, y ∈ ins comp v l ↔ y = v ∨ y ∈ l
  | [] => by simp [ins]
  | x :: r => by
    have ih := mem_ins o (v := v) (y := y) (l := r)
    rw [ins]
    split
    · rename_i e
      have := (o.zero _ _).1 e
      subst this
      simp
    · split
      · simp
      · rw [List.mem_cons, ih, List.mem_cons]
        constructor
        · rintro (h | h | h)
          · exact .inr (.inl h)
          · exact .inl h
          · exact .inr (.inr h)
        · rintro (h | h | h)
          · exact .inr (.inl h)
          · exact .inl h
          · exact .inr (.inr h)
theorem ins_rise (o : Ord comp) {v : α} : ∀ {l : List α}, Rise comp l → Rise comp (ins comp v l)
  | [], _ => List.pairwise_singleton _ _
  | x :: r, h => by
    obtain ⟨h1, h2⟩ := List.pairwise_cons.1 h
    rw [ins]
    split
    · exact h
    · rename_i n0
      split
      · rename_i n1
        refine List.pairwise_cons.2 ⟨fun y hy => ?_, h⟩
        rcases List.mem_cons.1 hy with e | e
        · rw [e]; exact n1
        · exact o.trans _ _ _ n1 (h1 y e)
      · rename_i n1
        have hv : lt comp x v := (o.turn _ _).2 (by omega)
        refine List.pairwise_cons.2 ⟨fun y hy => ?_, ins_rise o h2⟩
        rcases (mem_ins o).1 hy with e | e
        · rw [e]; exact hv
        · exact h1 y e
theorem ins_len (v : α) : ∀ l : List α, (ins comp v l).length ≤ l.length + 1
  | [] => by simp [ins]
  | x :: r => by
    have ih := ins_len v r
    rw [ins]
    split
    · simp
    · split
      · simp
      · simp only [List.length_cons]; omega
/-- Up to the first that is not ahead of v. -/
theorem ins_split (o : Ord comp) {v : α} : ∀ {l : List α} {k : Nat} (_ : k ≤ l.length), (∀ j, ∀ h : j < l.length, j < k → lt comp l[j] v) → (∀ h : k < l.length, lt comp v l[k]) → ins comp v l = l.take k ++ v :: l.drop k
  | [], k, hk, _, _ => by
    have : k = 0 := by simpa using hk
    subst this
    rfl
  | x :: r, 0, _, _, h2 => by
    have hv : lt comp v x := h2 (by simp)
    rw [ins, if_neg (by simp only [lt] at hv; omega), if_pos hv]
    rfl
  | x :: r, k + 1, hk, h1, h2 => by
    have hv : lt comp x v := h1 0 (by simp) (by omega)
    have ht := (o.turn x v).1 hv
    rw [ins, if_neg (by omega), if_neg (by omega)]
    rw [ins_split o (l := r) (k := k) (by simpa using hk) (fun j h hj => h1 (j + 1) (by simpa using h) (by omega)) (fun h => h2 (by simpa using h))]
    rfl
theorem ins_there (o : Ord comp) {v : α} {l : List α} (h : Rise comp l) (hv : v ∈ l) : ins comp v l = l :=
  rise_eq o (ins_rise o h) h fun y => by rw [mem_ins o]; exact ⟨fun k => by rcases k with k | k; (· rw [k]; exact hv); (· exact k), .inr⟩
/-- Where a walk stands that seeks the first that is not ahead of v. -/
def ahead (comp : α → α → Int) (v : α) (l : List α) (k : Nat) : Prop := k ≤ l.length ∧ ∀ j, ∀ h : j < l.length, j < k → lt comp l[j] v
theorem ahead_zero (v : α) (l : List α) : ahead comp v l 0 := ⟨Nat.zero_le _, fun _ _ h => absurd h (Nat.not_lt_zero _)⟩
theorem ahead_step {v : α} {l : List α} {k : Nat} (h : ahead comp v l k) (hk : k < l.length) (hv : lt comp l[k] v) : ahead comp v l (k + 1) := ⟨hk, fun j hj hjk => by
  by_cases e : j = k
  · subst e; exact hv
  · exact h.2 j hj (by omega)⟩
/-- Of a row of things each in its place, once. -/
def vals (comp : α → α → Int) (l : List α) : List α := l.foldl (fun a v => ins comp v a) []
theorem vals_step (l : List α) {k : Nat} (h : k < l.length) : vals comp (l.take (k + 1)) = ins comp l[k] (vals comp (l.take k)) := by
  unfold vals
  rw [List.take_succ_eq_append_getElem h, List.foldl_append]
  rfl
theorem fold_mem (o : Ord comp) {y : α} : ∀ {l a : List α}, y ∈ l.foldl (fun a v => ins comp v a) a ↔ y ∈ l ∨ y ∈ a
  | [], a => by simp
  | v :: l, a => by
    rw [List.foldl_cons, fold_mem o (l := l), mem_ins o, List.mem_cons]
    constructor
    · rintro (h | h | h)
      · exact .inl (.inr h)
      · exact .inl (.inl h)
      · exact .inr h
    · rintro ((h | h) | h)
      · exact .inr (.inl h)
      · exact .inl h
      · exact .inr (.inr h)
theorem mem_vals (o : Ord comp) {l : List α} {y : α} : y ∈ vals comp l ↔ y ∈ l := by
  unfold vals
  rw [fold_mem o]; simp
theorem fold_rise (o : Ord comp) : ∀ {l a : List α}, Rise comp a → Rise comp (l.foldl (fun a v => ins comp v a) a)
  | [], _, h => h
  | v :: l, a, h => by
    rw [List.foldl_cons]
    exact fold_rise o (ins_rise o h)
theorem vals_rise (o : Ord comp) (l : List α) : Rise comp (vals comp l) := fold_rise o List.Pairwise.nil
theorem fold_len : ∀ (l a : List α), (l.foldl (fun a v => ins comp v a) a).length ≤ l.length + a.length
  | [], a => by simp
  | v :: l, a => by
    rw [List.foldl_cons]
    have h1 := fold_len l (ins comp v a)
    have h2 := ins_len (comp := comp) v a
    simp only [List.length_cons]; omega
theorem vals_len (l : List α) : (vals comp l).length ≤ l.length := by
  have := fold_len (comp := comp) l []
  simpa [vals] using this
/-- Whoever rises, and holds the same, is it. -/
theorem vals_is (o : Ord comp) {l a : List α} (ha : Rise comp a) (h : ∀ x, x ∈ a ↔ x ∈ l) : a = vals comp l := rise_eq o ha (vals_rise o l) fun x => by rw [h, mem_vals o]

/-! ### Neighbours that are the same as one -/
theorem take_last {l : List α} {j : Nat} (h0 : 0 < j) (h : j ≤ l.length) : (l.take j).getLast? = some (l[j - 1]'(by omega)) := by
  rw [List.getLast?_eq_getElem?, List.length_take, Nat.min_eq_left h, List.getElem?_take_of_lt (by omega), List.getElem?_eq_getElem (by omega)]
section
variable [DecidableEq α]
def thin : List α → List α
  | [] => []
  | [x] => [x]
  | x :: y :: r => if x = y then thin (y :: r) else x :: thin (y :: r)
theorem mem_thin {z : α} : ∀ {l : List α}, z ∈ thin l ↔ z ∈ l
  | [] => Iff.rfl
  | [x] => Iff.rfl
  | x :: y :: r => by
    have ih := mem_thin (z := z) (l := y :: r)
    rw [thin]
    split
    · rename_i e
      subst e
      rw [ih]; simp
    · rw [List.mem_cons, ih, List.mem_cons (l := y :: r)]
theorem thin_rise (o : Ord comp) : ∀ {l : List α}, (l.Pairwise fun a b => comp a b ≤ 0) → Rise comp (thin l)
  | [], _ => List.Pairwise.nil
  | [x], _ => List.pairwise_singleton _ _
  | x :: y :: r, h => by
    obtain ⟨h1, h2⟩ := List.pairwise_cons.1 h
    have ih := thin_rise o h2
    rw [thin]
    split
    · exact ih
    · rename_i ne
      refine List.pairwise_cons.2 ⟨fun z hz => ?_, ih⟩
      have hz' := mem_thin.1 hz
      have hxy : lt comp x y := by
        rcases o.le_iff.1 (h1 y (by simp)) with k | k
        · exact k
        · exact absurd k ne
      rcases List.mem_cons.1 hz' with e | e
      · rw [e]; exact hxy
      · rcases o.le_iff.1 ((List.pairwise_cons.1 h2).1 z e) with k | k
        · exact o.trans _ _ _ hxy k
        · rw [← k]; exact hxy
/-- Sorted, and neighbours that are the same as one. -/
theorem vals_thin (o : Ord comp) {l s : List α} (hs : s.Pairwise fun a b => comp a b ≤ 0) (h : ∀ x, x ∈ s ↔ x ∈ l) : thin s = vals comp l := vals_is o (thin_rise o hs) fun x => by rw [mem_thin, h]
theorem thin_len : ∀ l : List α, (thin l).length ≤ l.length
  | [] => by simp [thin]
  | [a] => by simp [thin]
  | a :: b :: r => by
    have ih := thin_len (b :: r)
    rw [thin]
    split
    · simp only [List.length_cons] at *; omega
    · simp only [List.length_cons] at *; omega
theorem thin_snoc (x : α) : ∀ l : List α, thin (l ++ [x]) = if l.getLast? = some x then thin l else thin l ++ [x]
  | [] => by simp [thin]
  | [a] => by
    by_cases h : a = x
    · subst h; simp [thin]
    · simp [thin, h]
  | a :: b :: r => by
    have ih := thin_snoc x (b :: r)
    have e1 : thin (a :: b :: r ++ [x]) = if a = b then thin (b :: r ++ [x]) else a :: thin (b :: r ++ [x]) := by
      rw [List.cons_append, List.cons_append, thin]
    have e2 : thin (a :: b :: r) = if a = b then thin (b :: r) else a :: thin (b :: r) := by rw [thin]
    rw [e1, e2, ih, List.getLast?_cons_cons]
    by_cases h : a = b
    · rw [if_pos h, if_pos h]
    · rw [if_neg h, if_neg h]
      split
      · rfl
      · rfl
/-- Of the first j those that are not the one ahead of them. -/
def dd (l : List α) (j : Nat) : List α := thin (l.take j)
theorem dd_one {l : List α} (h : 0 < l.length) : dd l 1 = l.take 1 := by
  cases l with
  | nil => simp at h
  | cons a l => simp [dd, thin]
theorem dd_new {l : List α} {j : Nat} (h0 : 0 < j) (h : j < l.length) (he : l[j] ≠ l[j - 1]) : dd l (j + 1) = dd l j ++ [l[j]] := by
  unfold dd
  rw [List.take_succ_eq_append_getElem h, thin_snoc, take_last h0 (by omega), if_neg (by intro e; exact he (Option.some.inj e).symm)]
theorem dd_old {l : List α} {j : Nat} (h0 : 0 < j) (h : j < l.length) (he : l[j] = l[j - 1]) : dd l (j + 1) = dd l j := by
  unfold dd
  rw [List.take_succ_eq_append_getElem h, thin_snoc, take_last h0 (by omega), if_pos (by rw [he])]
theorem dd_all {l : List α} {n : Nat} (h : n = l.length) : dd l n = thin l := by
  unfold dd
  rw [h, List.take_length]
end

/-! ### A thing laid by shifting what stands behind it -/
/-- Of l and one more place at its end: what stood from place k on stands one further. -/
def Shift (l : List α) (k : Nat) (cur : List α) : Prop := cur.length = l.length + 1 ∧ k ≤ l.length ∧ cur.take k = l.take k ∧ cur.drop (k + 1) = l.drop k
theorem Shift.start (l : List α) (x : α) : Shift l l.length (l ++ [x]) := ⟨by simp, Nat.le_refl _, by simp, by simp⟩
theorem Shift.at {l cur : List α} {k : Nat} (h : Shift l (k + 1) cur) : ∃ h1 : k < cur.length, ∃ h2 : k < l.length, cur[k] = l[k] := by
  obtain ⟨h1, h2, h3, h4⟩ := h
  have a : k < cur.length := by omega
  refine ⟨a, by omega, ?_⟩
  have e : (cur.take (k + 1))[k]? = (l.take (k + 1))[k]? := by rw [h3]
  rw [List.getElem?_take_of_lt (by omega), List.getElem?_take_of_lt (by omega), List.getElem?_eq_getElem a, List.getElem?_eq_getElem (by omega)] at e
  exact Option.some.inj e
theorem Shift.step {l cur : List α} {k : Nat} (h : Shift l (k + 1) cur) (hk : k < l.length) : Shift l k (cur.set (k + 1) l[k]) := by
  obtain ⟨h1, h2, h3, h4⟩ := h
  refine ⟨by simpa using h1, by omega, ?_, ?_⟩
  · rw [List.take_set_of_le (by omega)]
    have e := congrArg (fun q => q.take k) h3
    simpa [List.take_take, Nat.min_eq_left (Nat.le_succ k)] using e
  · have hc : k + 1 < cur.length := by omega
    rw [List.drop_eq_getElem_cons (by simpa using hc), List.getElem_set_self, List.drop_set_of_lt (by omega), h4]
    exact (List.drop_eq_getElem_cons hk).symm
theorem Shift.done {l cur : List α} {k : Nat} (h : Shift l k cur) (x : α) : cur.set k x = l.take k ++ x :: l.drop k := by
  obtain ⟨h1, h2, h3, h4⟩ := h
  have hc : k < cur.length := by omega
  rw [List.set_eq_take_append_cons_drop, if_pos hc, h3, h4]
end

/-! ### Sums of numbers above and below 0 -/
def ups (l : List Int) : Int := (l.map fun n => if 0 < n then n else 0).sum
def downs (l : List Int) : Int := (l.map fun n => if n < 0 then -n else 0).sum
theorem sum_snoc (l : List Int) (x : Int) : (l ++ [x]).sum = l.sum + x := by simp
theorem ups_step (l : List Int) {k : Nat} (h : k < l.length) : ups (l.take (k + 1)) = ups (l.take k) + if 0 < l[k] then l[k] else 0 := by
  unfold ups
  rw [List.take_succ_eq_append_getElem h, List.map_append, List.map_singleton, sum_snoc]
theorem downs_step (l : List Int) {k : Nat} (h : k < l.length) : downs (l.take (k + 1)) = downs (l.take k) + if l[k] < 0 then -l[k] else 0 := by
  unfold downs
  rw [List.take_succ_eq_append_getElem h, List.map_append, List.map_singleton, sum_snoc]
theorem sum_step (l : List Int) {k : Nat} (h : k < l.length) : (l.take (k + 1)).sum = (l.take k).sum + l[k] := by
  rw [List.take_succ_eq_append_getElem h, sum_snoc]
theorem sum_ups : ∀ l : List Int, l.sum = ups l - downs l
  | [] => rfl
  | n :: l => by
    have ih := sum_ups l
    unfold ups downs at *
    simp only [List.map_cons, List.sum_cons]
    by_cases h : 0 < n
    · rw [if_pos h, if_neg (by omega)]; omega
    · rw [if_neg h]
      by_cases h2 : n < 0
      · rw [if_pos h2]; omega
      · rw [if_neg h2]; omega
theorem ups_range (m : Int) (hm : 0 ≤ m) : ∀ l : List Int, (∀ n ∈ l, -m ≤ n ∧ n ≤ m) → 0 ≤ ups l ∧ ups l ≤ l.length * m ∧ 0 ≤ downs l ∧ downs l ≤ l.length * m
  | [], _ => by simp [ups, downs]
  | n :: l, h => by
    have ih := ups_range m hm l fun x hx => h x (List.mem_cons_of_mem _ hx)
    have hn := h n (by simp)
    unfold ups downs at *
    simp only [List.map_cons, List.sum_cons, List.length_cons]
    have e : ((l.length + 1 : Nat) : Int) * m = l.length * m + m := by rw [Int.natCast_add, Int.add_mul]; simp
    rw [e]
    generalize (l.length : Int) * m = q at *
    split <;> split <;> omega
end Li
end Go.Proofs.YthlhopdlkkeohaaGreatDoor
/- Bags, counters and trees as plain mathematics (for stages 15 to 17): what added a value, sums, leaves, keys, kinds, how deep, and what 17.2 says follows. -/
namespace Go.Proofs.YthlhopdlkkeohaaGreatDoor
namespace Tr
open Go.Lib

/-! ### Orders -/
/-- A leaf: a path, and a kind. -/
abbrev Leaf := List (List UInt8) × Int
def lcomp (a b : Leaf) : Int := if Pt.comp a.1 b.1 = 0 then a.2 - b.2 else Pt.comp a.1 b.1
theorem lord : Li.Ord lcomp where
  zero x y := by
    obtain ⟨p, k⟩ := x
    obtain ⟨q, m⟩ := y
    simp only [lcomp, Prod.mk.injEq]
    by_cases h : Pt.comp p q = 0
    · rw [if_pos h]
      exact ⟨fun e => ⟨Pt.comp_zero h, by omega⟩, fun ⟨_, e⟩ => by omega⟩
    · rw [if_neg h]
      exact ⟨fun e => absurd e h, fun ⟨e, _⟩ => absurd (by rw [e]; exact Pt.comp_self q) h⟩
  turn x y := by
    obtain ⟨p, k⟩ := x
    obtain ⟨q, m⟩ := y
    simp only [lcomp]
    have t := Pt.comp_turn p q
    by_cases h : Pt.comp p q = 0
    · rw [if_pos h, if_pos (by omega)]; omega
    · rw [if_neg h, if_neg (by omega)]; omega
  trans x y z := by
    obtain ⟨p, k⟩ := x
    obtain ⟨q, m⟩ := y
    obtain ⟨r, n⟩ := z
    simp only [lcomp]
    intro h1 h2
    have t1 := Pt.comp_trans p q r
    have c1 := Pt.comp_turn p q
    have c2 := Pt.comp_turn q r
    have c3 := Pt.comp_turn p r
    by_cases e1 : Pt.comp p q = 0
    · have := Pt.comp_zero e1
      subst this
      rw [if_pos e1] at h1
      by_cases e2 : Pt.comp p r = 0
      · rw [if_pos e2] at h2 ⊢; omega
      · rw [if_neg e2] at h2 ⊢; omega
    · rw [if_neg e1] at h1
      by_cases e2 : Pt.comp q r = 0
      · have := Pt.comp_zero e2
        subst this
        rw [if_neg e1]; exact h1
      · rw [if_neg e2] at h2
        have h3 := t1 (by omega) (by omega)
        by_cases e3 : Pt.comp p r = 0
        · have := Pt.comp_zero e3
          subst this
          omega
        · rw [if_neg e3]; omega
theorem nord : Li.Ord compareBytes where
  zero x y := ⟨Pt.cb_zero, fun e => by rw [e]; exact Pt.cb_self y⟩
  turn x y := by have := Pt.cb_turn x y; omega
  trans x y z h1 h2 := by
    have h3 := Pt.cb_trans x y z (by omega) (by omega)
    rcases Int.lt_or_eq_of_le h3 with h | h
    · exact h
    · have := Pt.cb_zero h
      subst this
      have := Pt.cb_turn x y
      omega

/-! ### Bags and counters -/
/-- Which operations added a value; a value as its three parts. -/
def adds (its : List Lv.Item) (p : List (List UInt8)) (v : Int × Int × List UInt8) : List U := ((Lv.atLeaf its p 2).filter fun i => decide ((i.o.vk, i.o.vn, i.o.vs) = v)).map (·.x)
def nums (its : List Lv.Item) (p : List (List UInt8)) : List Int := (Lv.atLeaf its p 3).map (·.o.n)
theorem nums_range {its : List Lv.Item} {m : Int} (h : ∀ i ∈ its, -m ≤ i.o.n ∧ i.o.n ≤ m) (p : List (List UInt8)) : ∀ n ∈ nums its p, -m ≤ n ∧ n ≤ m := fun n hn => by
  obtain ⟨i, hi, rfl⟩ := List.mem_map.1 hn
  exact h i (List.mem_filter.1 hi).1

/-! ### Trees -/
def leafOf (i : Lv.Item) : Leaf := (i.o.p, Os.leaf i.o.k)
def leaves (its : List Lv.Item) : List Leaf := Li.vals lcomp (its.map leafOf)
/-- The name that stands next behind p. -/
def next (p : List (List UInt8)) (i : Lv.Item) : Option (List UInt8) := if p.length < i.o.p.length ∧ Pt.under i.o.p p = true then i.o.p[p.length]? else none
def keys (its : List Lv.Item) (p : List (List UInt8)) : List (List UInt8) := Li.vals compareBytes (its.filterMap (next p))
def kinds (its : List Lv.Item) (p : List (List UInt8)) : List Int := [1, 2, 3].filter fun k => !(Lv.atLeaf its p k).isEmpty
def deep (its : List Lv.Item) : Nat := (its.map fun i => i.o.p.length).foldl max 0
theorem mem_leaves {its : List Lv.Item} {x : Leaf} : x ∈ leaves its ↔ ∃ i ∈ its, leafOf i = x := by
  unfold leaves
  rw [Li.mem_vals lord, List.mem_map]
theorem mem_keys {its : List Lv.Item} {p : List (List UInt8)} {s : List UInt8} : s ∈ keys its p ↔ ∃ i ∈ its, next p i = some s := by
  unfold keys
  rw [Li.mem_vals nord, List.mem_filterMap]
theorem mem_atLeaf {its : List Lv.Item} {p : List (List UInt8)} {k : Int} {i : Lv.Item} : i ∈ Lv.atLeaf its p k ↔ i ∈ its ∧ leafOf i = (p, k) := by
  unfold Lv.atLeaf leafOf
  rw [List.mem_filter, decide_eq_true_eq, Prod.mk.injEq]
  constructor
  · rintro ⟨h, a, b⟩; exact ⟨h, b, a⟩
  · rintro ⟨h, a, b⟩; exact ⟨h, b, a⟩
theorem fold_max : ∀ (l : List Nat) (a : Nat), a ≤ l.foldl max a ∧ (∀ x ∈ l, x ≤ l.foldl max a) ∧ (l.foldl max a = a ∨ l.foldl max a ∈ l)
  | [], a => by simp
  | y :: l, a => by
    obtain ⟨h1, h2, h3⟩ := fold_max l (max a y)
    rw [List.foldl_cons]
    refine ⟨Nat.le_trans (Nat.le_max_left a y) h1, fun x hx => ?_, ?_⟩
    · rcases List.mem_cons.1 hx with e | e
      · rw [e]; exact Nat.le_trans (Nat.le_max_right a y) h1
      · exact h2 x e
    · rcases h3 with e | e
      · rw [e]
        rcases Nat.le_total a y with h | h
        · exact .inr (by rw [Nat.max_eq_right h]; simp)
        · exact .inl (Nat.max_eq_left h)
      · exact .inr (List.mem_cons_of_mem _ e)
theorem le_deep {its : List Lv.Item} {i : Lv.Item} (h : i ∈ its) : i.o.p.length ≤ deep its := (fold_max _ 0).2.1 _ (List.mem_map.2 ⟨i, h, rfl⟩)
theorem deep_mem {its : List Lv.Item} : deep its = 0 ∨ ∃ i ∈ its, i.o.p.length = deep its := by
  rcases (fold_max (its.map fun i => i.o.p.length) 0).2.2 with e | e
  · exact .inl e
  · exact .inr (List.mem_map.1 e)
theorem deep_step (its : List Lv.Item) {k : Nat} (h : k < its.length) : deep (its.take (k + 1)) = max (deep (its.take k)) its[k].o.p.length := by
  unfold deep
  rw [List.take_succ_eq_append_getElem h, List.map_append, List.foldl_append]
  rfl

/-! ### 17.2: leaves are found by their keys -/
theorem next_take {i : Lv.Item} {j : Nat} (h : j < i.o.p.length) : next (i.o.p.take j) i = some i.o.p[j] := by
  unfold next
  rw [if_pos ⟨by rw [List.length_take]; omega, Pt.under_iff.2 ⟨i.o.p.drop j, (List.take_append_drop j _).symm⟩⟩, List.length_take, Nat.min_eq_left (by omega), List.getElem?_eq_getElem h]
theorem walk {its : List Lv.Item} {x : Leaf} (h : x ∈ leaves its) {j : Nat} (hj : j < x.1.length) : x.1[j] ∈ keys its (x.1.take j) := by
  obtain ⟨i, hi, rfl⟩ := mem_leaves.1 h
  exact mem_keys.2 ⟨i, hi, next_take hj⟩
theorem leaf_deep {its : List Lv.Item} {x : Leaf} (h : x ∈ leaves its) : x.1.length ≤ deep its := by
  obtain ⟨i, hi, rfl⟩ := mem_leaves.1 h
  exact le_deep hi
theorem leaf_kind {k : Int} (h : Lv.able k = true) : Os.leaf k = 1 ∨ Os.leaf k = 2 ∨ Os.leaf k = 3 := by
  unfold Lv.able at h
  rw [decide_eq_true_eq] at h
  have : k = 1 ∨ k = 2 ∨ k = 3 := by omega
  rcases this with rfl | rfl | rfl <;> decide
end Tr
end Go.Proofs.YthlhopdlkkeohaaGreatDoor
