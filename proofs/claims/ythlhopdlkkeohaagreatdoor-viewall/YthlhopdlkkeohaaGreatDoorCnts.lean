/- Counts as plain mathematics: which are right, a dot's count, the join, what is over, one more, all by what they tell of a dot. -/
import Derived.Test.YthlhopdlkkeohaaGreatDoorOpsAll
namespace Go.Proofs.YthlhopdlkkeohaaGreatDoor

namespace Ct

/-- The one dot stands ahead of the other. -/
abbrev lt (x y : D) : Prop := x.1 < y.1 ∨ (x.1 = y.1 ∧ x.2 < y.2)
theorem lt_trans {x y z : D} (h : lt x y) (k : lt y z) : lt x z := by unfold lt at *; omega
theorem lt_irrefl (x : D) : ¬ lt x x := by unfold lt; omega
theorem lt_asymm {x y : D} (h : lt x y) : ¬ lt y x := by unfold lt at *; omega
theorem lt_ne {x y : D} (h : lt x y) : x ≠ y := fun e => lt_irrefl y (by rw [e] at h; exact h)
theorem lt_or {x y : D} (h : ¬ lt x y) : x = y ∨ lt y x := by
  obtain ⟨a, b⟩ := x
  obtain ⟨c, d⟩ := y
  unfold lt at *
  simp at *
  omega
/-- May a count be? -/
def ok (u : U) : Bool := Dt.right u.1.1 u.1.2 && decide (1 ≤ u.2) && decide (u.2 ≤ 64)
theorem ok_iff {u : U} : ok u = true ↔ Dt.right u.1.1 u.1.2 = true ∧ 1 ≤ u.2 ∧ u.2 ≤ 64 := by simp [ok, and_assoc]
/-- May all be, in their order? -/
abbrev Std (l : List U) : Prop := (∀ u ∈ l, ok u = true) ∧ l.Pairwise fun x y => lt x.1 y.1
def right (l : List U) : Bool := decide (Std l)
theorem right_iff {l : List U} : right l = true ↔ Std l := by simp [right]
theorem std_nil : Std [] := ⟨fun _ h => (by cases h), List.Pairwise.nil⟩
theorem std_tail {u : U} {l : List U} (h : Std (u :: l)) : Std l := ⟨fun x hx => h.1 x (List.mem_cons_of_mem _ hx), (List.pairwise_cons.1 h.2).2⟩
theorem std_head {u : U} {l : List U} (h : Std (u :: l)) : ok u = true ∧ ∀ x ∈ l, lt u.1 x.1 := ⟨h.1 u (by simp), (List.pairwise_cons.1 h.2).1⟩
theorem std_cons {u : U} {l : List U} (h1 : ok u = true) (h2 : ∀ x ∈ l, lt u.1 x.1) (h3 : Std l) : Std (u :: l) := ⟨fun x hx => by
  rcases List.mem_cons.1 hx with e | e
  · rw [e]; exact h1
  · exact h3.1 x e, List.pairwise_cons.2 ⟨h2, h3.2⟩⟩
theorem std_one (u : U) : right [u] = ok u := by
  rw [Bool.eq_iff_iff, right_iff]
  exact ⟨fun h => h.1 u (by simp), fun h => std_cons h (fun x hx => by cases hx) std_nil⟩
theorem std_sub {l m : List U} (h : Std m) (hs : l.Sublist m) : Std l := ⟨fun x hx => h.1 x (hs.mem hx), h.2.sublist hs⟩
theorem std_take {l : List U} (h : Std l) (k : Nat) : Std (l.take k) := std_sub h (List.take_sublist _ _)
theorem std_drop {l : List U} (h : Std l) (k : Nat) : Std (l.drop k) := std_sub h (List.drop_sublist _ _)
theorem std_step {l : List U} {k : Nat} (h : Std (l.take k)) (hk : k < l.length) (h1 : ok l[k] = true) (h2 : k = 0 ∨ ∃ h' : k - 1 < l.length, lt (l[k - 1]).1 (l[k]).1) : Std (l.take (k + 1)) := by
  rw [List.take_succ_eq_append_getElem hk]
  refine ⟨fun x hx => ?_, List.pairwise_append.2 ⟨h.2, List.pairwise_singleton _ _, fun x hx y hy => ?_⟩⟩
  · rcases List.mem_append.1 hx with e | e
    · exact h.1 x e
    · rw [List.mem_singleton.1 e]; exact h1
  · rw [List.mem_singleton.1 hy]
    obtain ⟨j, hj, rfl⟩ := List.mem_iff_getElem.1 hx
    have hj' : j < k := by simp at hj; omega
    rcases h2 with e | ⟨h', e⟩
    · omega
    · by_cases hjk : j = k - 1
      · subst hjk
        rw [List.getElem_take]
        exact e
      · have := List.pairwise_iff_getElem.1 h.2 j (k - 1) hj (by simp; omega) (by omega)
        simp only [List.getElem_take] at this ⊢
        exact lt_trans this e
theorem not_ok {l : List U} {k : Nat} (hk : k < l.length) (h : ok l[k] = false) : right l = false := by
  rw [Bool.eq_false_iff]
  intro e
  have := (right_iff.1 e).1 l[k] (List.getElem_mem hk)
  rw [h] at this
  cases this
theorem not_lt {l : List U} {k : Nat} (hk : k + 1 < l.length) (h : ¬ lt (l[k]).1 (l[k + 1]).1) : right l = false := by
  rw [Bool.eq_false_iff]
  intro e
  exact h (List.pairwise_iff_getElem.1 (right_iff.1 e).2 k (k + 1) (by omega) hk (by omega))

/-- A dot's count; 0, where there is none. -/
def get : List U → D → Int
  | [], _ => 0
  | u :: l, d => if u.1 = d then u.2 else get l d
theorem get_none : ∀ {l : List U} {d : D}, (∀ u ∈ l, u.1 ≠ d) → get l d = 0
  | [], _, _ => rfl
  | u :: l, d, h => by rw [get, if_neg (h u (by simp))]; exact get_none fun x hx => h x (List.mem_cons_of_mem _ hx)
theorem get_ahead {l : List U} {d : D} (h : ∀ u ∈ l, lt d u.1) : get l d = 0 := get_none fun u hu e => lt_irrefl d (by have := h u hu; rw [e] at this; exact this)
theorem get_mem : ∀ {l : List U}, Std l → ∀ u ∈ l, get l u.1 = u.2
  | v :: l, h, u, hu => by
    rw [get]
    rcases List.mem_cons.1 hu with e | e
    · rw [if_pos (by rw [e]), e]
    · rw [if_neg (fun q => lt_ne ((std_head h).2 u e) q)]; exact get_mem (std_tail h) u e
theorem get_in : ∀ {l : List U} {d : D}, get l d ≠ 0 → (d, get l d) ∈ l
  | [], _, h => absurd rfl h
  | u :: l, d, h => by
    rw [get] at h ⊢
    by_cases e : u.1 = d
    · rw [if_pos e]; rw [← e]; simp
    · rw [if_neg e] at h ⊢
      exact List.mem_cons_of_mem _ (get_in h)
theorem get_range {l : List U} (h : Std l) (d : D) : 0 ≤ get l d ∧ get l d ≤ 64 := by
  by_cases e : get l d = 0
  · rw [e]; omega
  · have := (ok_iff.1 (h.1 _ (get_in e))).2
    simp only at this
    omega
theorem get_right {l : List U} (h : Std l) {d : D} (e : get l d ≠ 0) : Dt.right d.1 d.2 = true := (ok_iff.1 (h.1 _ (get_in e))).1
theorem get_at {l : List U} (h : Std l) (k : Nat) (hk : k < l.length) : get l (l[k]).1 = (l[k]).2 := get_mem h _ (List.getElem_mem hk)
/-- COUNTS ARE WHAT THEY TELL OF EACH DOT. -/
theorem ext : ∀ {a b : List U}, Std a → Std b → (∀ d, get a d = get b d) → a = b
  | [], [], _, _, _ => rfl
  | [], y :: b, _, hb, h => by
    have := h y.1
    rw [get_mem hb y (by simp)] at this
    have := (ok_iff.1 (std_head hb).1).2
    simp only [get] at *
    omega
  | x :: a, [], ha, _, h => by
    have := h x.1
    rw [get_mem ha x (by simp)] at this
    have := (ok_iff.1 (std_head ha).1).2
    simp only [get] at *
    omega
  | x :: a, y :: b, ha, hb, h => by
    have px := (ok_iff.1 (std_head ha).1).2
    have py := (ok_iff.1 (std_head hb).1).2
    have hxy : x.1 = y.1 := by
      by_cases l1 : lt x.1 y.1
      · exfalso
        have e := h x.1
        rw [get_mem ha x (by simp), get_ahead (l := y :: b) (fun u hu => by
          rcases List.mem_cons.1 hu with q | q
          · rw [q]; exact l1
          · exact lt_trans l1 ((std_head hb).2 u q))] at e
        omega
      · rcases lt_or l1 with e | l2
        · exact e
        · exfalso
          have e := h y.1
          rw [get_mem hb y (by simp), get_ahead (l := x :: a) (fun u hu => by
            rcases List.mem_cons.1 hu with q | q
            · rw [q]; exact l2
            · exact lt_trans l2 ((std_head ha).2 u q))] at e
          omega
    have e2 : x.2 = y.2 := by
      have e := h x.1
      rw [get_mem ha x (by simp), hxy, get_mem hb y (by simp)] at e
      exact e
    have exy : x = y := Prod.ext hxy e2
    subst exy
    congr 1
    refine ext (std_tail ha) (std_tail hb) fun d => ?_
    have e := h d
    rw [get, get] at e
    by_cases q : x.1 = d
    · subst q
      rw [get_ahead (std_head ha).2, get_ahead (std_head hb).2]
    · rwa [if_neg q, if_neg q] at e

/-- The greater one of each two, both gone through at once. -/
def join : List U → List U → List U
  | [], b => b
  | x :: a, [] => x :: a
  | x :: a, y :: b => if lt x.1 y.1 then x :: join a (y :: b) else if x.1 = y.1 then (x.1, max x.2 y.2) :: join a b else y :: join (x :: a) b
termination_by a b => a.length + b.length
theorem join_nil (a : List U) : join a [] = a := by cases a <;> simp [join]
theorem nil_join (b : List U) : join [] b = b := by simp [join]
theorem join_lt {x y : U} {a b : List U} (h : lt x.1 y.1) : join (x :: a) (y :: b) = x :: join a (y :: b) := by rw [join, if_pos h]
theorem join_eq {x y : U} {a b : List U} (h : x.1 = y.1) : join (x :: a) (y :: b) = (x.1, max x.2 y.2) :: join a b := by rw [join, if_neg (by rw [h]; exact lt_irrefl _), if_pos h]
theorem join_gt {x y : U} {a b : List U} (h : lt y.1 x.1) : join (x :: a) (y :: b) = y :: join (x :: a) b := by rw [join, if_neg (lt_asymm h), if_neg (fun e => lt_ne h e.symm)]
theorem join_comm : ∀ (n : Nat) (a b : List U), a.length + b.length ≤ n → join a b = join b a
  | _, [], b, _ => by rw [join_nil, nil_join]
  | _, a, [], _ => by rw [join_nil, nil_join]
  | 0, x :: a, y :: b, h => by simp at h
  | n + 1, x :: a, y :: b, h => by
    simp only [List.length_cons] at h
    by_cases h1 : lt x.1 y.1
    · rw [join_lt h1, join_gt h1, join_comm n a (y :: b) (by simp; omega)]
    · rcases lt_or h1 with e | h2
      · rw [join_eq e, join_eq e.symm, join_comm n a b (by omega), e, Int.max_comm]
      · rw [join_gt h2, join_lt h2, join_comm n (x :: a) b (by simp; omega)]
theorem join_turn (a b : List U) : join a b = join b a := join_comm _ a b (Nat.le_refl _)
theorem join_len : ∀ (n : Nat) (a b : List U), a.length + b.length ≤ n → (join a b).length ≤ a.length + b.length
  | _, [], b, _ => by rw [nil_join]; simp
  | _, a, [], _ => by rw [join_nil]; simp
  | 0, x :: a, y :: b, h => by simp at h
  | n + 1, x :: a, y :: b, h => by
    simp only [List.length_cons] at h
    by_cases h1 : lt x.1 y.1
    · have := join_len n a (y :: b) (by simp; omega)
      rw [join_lt h1]; simp at *; omega
    · rcases lt_or h1 with e | h2
      · have := join_len n a b (by omega)
        rw [join_eq e]; simp at *; omega
      · have := join_len n (x :: a) b (by simp; omega)
        rw [join_gt h2]; simp at *; omega
theorem join_length (a b : List U) : (join a b).length ≤ a.length + b.length := join_len _ a b (Nat.le_refl _)
theorem join_dots : ∀ (n : Nat) (a b : List U), a.length + b.length ≤ n → ∀ u ∈ join a b, (∃ v ∈ a, v.1 = u.1) ∨ (∃ v ∈ b, v.1 = u.1)
  | _, [], b, _, u, hu => by rw [nil_join] at hu; exact Or.inr ⟨u, hu, rfl⟩
  | _, a, [], _, u, hu => by rw [join_nil] at hu; exact Or.inl ⟨u, hu, rfl⟩
  | 0, x :: a, y :: b, h, _, _ => by simp at h
  | n + 1, x :: a, y :: b, h, u, hu => by
    simp only [List.length_cons] at h
    by_cases h1 : lt x.1 y.1
    · rw [join_lt h1] at hu
      rcases List.mem_cons.1 hu with e | e
      · exact Or.inl ⟨x, by simp, by rw [e]⟩
      · rcases join_dots n a (y :: b) (by simp; omega) u e with ⟨v, hv, q⟩ | ⟨v, hv, q⟩
        · exact Or.inl ⟨v, List.mem_cons_of_mem _ hv, q⟩
        · exact Or.inr ⟨v, hv, q⟩
    · rcases lt_or h1 with e0 | h2
      · rw [join_eq e0] at hu
        rcases List.mem_cons.1 hu with e | e
        · exact Or.inl ⟨x, by simp, by rw [e]⟩
        · rcases join_dots n a b (by omega) u e with ⟨v, hv, q⟩ | ⟨v, hv, q⟩
          · exact Or.inl ⟨v, List.mem_cons_of_mem _ hv, q⟩
          · exact Or.inr ⟨v, List.mem_cons_of_mem _ hv, q⟩
      · rw [join_gt h2] at hu
        rcases List.mem_cons.1 hu with e | e
        · exact Or.inr ⟨y, by simp, by rw [e]⟩
        · rcases join_dots n (x :: a) b (by simp; omega) u e with ⟨v, hv, q⟩ | ⟨v, hv, q⟩
          · exact Or.inl ⟨v, hv, q⟩
          · exact Or.inr ⟨v, List.mem_cons_of_mem _ hv, q⟩
/-- What stands ahead of both stands ahead of the join. -/
theorem join_ahead {a b : List U} {d : D} (ha : ∀ u ∈ a, lt d u.1) (hb : ∀ u ∈ b, lt d u.1) : ∀ u ∈ join a b, lt d u.1 := fun u hu => by
  rcases join_dots _ a b (Nat.le_refl _) u hu with ⟨v, hv, q⟩ | ⟨v, hv, q⟩
  · rw [← q]; exact ha v hv
  · rw [← q]; exact hb v hv
theorem ahead_cons {x y : U} {b : List U} (h : lt x.1 y.1) (hb : Std (y :: b)) : ∀ u ∈ y :: b, lt x.1 u.1 := fun u hu => by
  rcases List.mem_cons.1 hu with q | q
  · rw [q]; exact h
  · exact lt_trans h ((std_head hb).2 u q)
theorem join_all : ∀ (n : Nat) (a b : List U), a.length + b.length ≤ n → Std a → Std b → Std (join a b) ∧ ∀ d, get (join a b) d = max (get a d) (get b d)
  | _, [], b, _, _, hb => by
    rw [nil_join]
    exact ⟨hb, fun d => by have := get_range hb d; simp only [get]; omega⟩
  | _, x :: a, [], _, ha, _ => by
    rw [join_nil]
    exact ⟨ha, fun d => by have := get_range ha d; simp only [get.eq_1 d]; omega⟩
  | 0, x :: a, y :: b, h, _, _ => by simp at h
  | n + 1, x :: a, y :: b, h, ha, hb => by
    simp only [List.length_cons] at h
    have px := (ok_iff.1 (std_head ha).1)
    have py := (ok_iff.1 (std_head hb).1)
    by_cases h1 : lt x.1 y.1
    · obtain ⟨s, g⟩ := join_all n a (y :: b) (by simp; omega) (std_tail ha) hb
      rw [join_lt h1]
      refine ⟨std_cons (std_head ha).1 (join_ahead (std_head ha).2 (ahead_cons h1 hb)) s, fun d => ?_⟩
      rw [get, get.eq_2 _ x a]
      by_cases q : x.1 = d
      · rw [if_pos q, if_pos q]
        rw [get_ahead (l := y :: b) (by rw [← q]; exact ahead_cons h1 hb)]
        omega
      · rw [if_neg q, if_neg q, g]
    · rcases lt_or h1 with e0 | h2
      · obtain ⟨s, g⟩ := join_all n a b (by omega) (std_tail ha) (std_tail hb)
        rw [join_eq e0]
        refine ⟨std_cons (u := (x.1, max x.2 y.2)) (ok_iff.2 ⟨px.1, by simp only; omega⟩) (join_ahead (std_head ha).2 (by rw [e0]; exact (std_head hb).2)) s, fun d => ?_⟩
        rw [get, get, get]
        by_cases q : x.1 = d
        · rw [if_pos q, if_pos q, if_pos (by rw [← e0]; exact q)]
        · rw [if_neg q, if_neg q, if_neg (by rw [← e0]; exact q), g]
      · obtain ⟨s, g⟩ := join_all n (x :: a) b (by simp; omega) ha (std_tail hb)
        rw [join_gt h2]
        refine ⟨std_cons (std_head hb).1 (join_ahead (ahead_cons h2 ha) (std_head hb).2) s, fun d => ?_⟩
        rw [get, get.eq_2 _ y b]
        by_cases q : y.1 = d
        · rw [if_pos q, if_pos q]
          rw [get_ahead (l := x :: a) (by rw [← q]; exact ahead_cons h2 ha)]
          omega
        · rw [if_neg q, if_neg q, g]
theorem join_std {a b : List U} (ha : Std a) (hb : Std b) : Std (join a b) := (join_all _ a b (Nat.le_refl _) ha hb).1
theorem get_join {a b : List U} (ha : Std a) (hb : Std b) (d : D) : get (join a b) d = max (get a d) (get b d) := (join_all _ a b (Nat.le_refl _) ha hb).2 d

/-- Those that are above. -/
def over (a b : List U) : List U := a.filter fun u => decide (get b u.1 < u.2)
theorem over_std {a : List U} (ha : Std a) (b : List U) : Std (over a b) := std_sub ha List.filter_sublist
theorem get_over : ∀ {a : List U} (_ : Std a) (b : List U) (d : D), get (over a b) d = if get b d < get a d then get a d else 0
  | [], _, b, d => by
    show (0 : Int) = if get b d < 0 then 0 else 0
    split <;> rfl
  | x :: a, ha, b, d => by
    have ih := get_over (std_tail ha) b d
    unfold over at *
    rw [List.filter_cons]
    by_cases q : x.1 = d
    · have hz : get a d = 0 := by rw [← q]; exact get_ahead (std_head ha).2
      rw [hz] at ih
      by_cases h : get b x.1 < x.2
      · rw [if_pos (decide_eq_true h), get, if_pos q, get, if_pos q, ← q, if_pos h]
      · rw [if_neg (by simpa using h), ih, get, if_pos q, ← q, if_neg h]
        split <;> rfl
    · rw [get.eq_2 _ x a, if_neg q, ← ih]
      split
      · rw [get, if_neg q]
      · rfl

/-- One is laid in its place. -/
def ins (u : U) : List U → List U
  | [] => [u]
  | x :: l => if lt x.1 u.1 then x :: ins u l else if x.1 = u.1 then u :: l else u :: x :: l
/-- A count more, if it may be and is above. -/
def put (l : List U) (u : U) : List U := if ok u = true ∧ get l u.1 < u.2 then ins u l else l
theorem ins_ahead {u : U} {d : D} : ∀ {l : List U}, (∀ x ∈ l, lt d x.1) → lt d u.1 → ∀ x ∈ ins u l, lt d x.1
  | [], _, hu, x, hx => by rw [ins] at hx; rw [List.mem_singleton.1 hx]; exact hu
  | y :: l, hl, hu, x, hx => by
    rw [ins] at hx
    split at hx
    · rcases List.mem_cons.1 hx with e | e
      · rw [e]; exact hl y (by simp)
      · exact ins_ahead (fun z hz => hl z (List.mem_cons_of_mem _ hz)) hu x e
    · split at hx
      · rcases List.mem_cons.1 hx with e | e
        · rw [e]; exact hu
        · exact hl x (List.mem_cons_of_mem _ e)
      · rcases List.mem_cons.1 hx with e | e
        · rw [e]; exact hu
        · exact hl x e
theorem ins_all {u : U} (hu : ok u = true) : ∀ {l : List U}, Std l → Std (ins u l) ∧ ∀ d, get (ins u l) d = if u.1 = d then u.2 else get l d
  | [], _ => ⟨std_cons hu (fun _ h => by cases h) std_nil, fun d => by simp [ins, get]⟩
  | x :: l, h => by
    obtain ⟨s, g⟩ := ins_all hu (std_tail h)
    rw [ins]
    by_cases h1 : lt x.1 u.1
    · rw [if_pos h1]
      refine ⟨std_cons (std_head h).1 (ins_ahead (std_head h).2 h1) s, fun d => ?_⟩
      rw [get, g, get]
      by_cases q : x.1 = d
      · rw [if_pos q, if_pos q, if_neg (fun e => lt_ne h1 (q.trans e.symm))]
      · rw [if_neg q, if_neg q]
    · rw [if_neg h1]
      by_cases e : x.1 = u.1
      · rw [if_pos e]
        refine ⟨std_cons hu (by rw [← e]; exact (std_head h).2) (std_tail h), fun d => ?_⟩
        rw [get, get]
        by_cases q : u.1 = d
        · rw [if_pos q, if_pos q]
        · rw [if_neg q, if_neg q, if_neg (by rw [e]; exact q)]
      · rw [if_neg e]
        have h2 : lt u.1 x.1 := by
          rcases lt_or h1 with q | q
          · exact absurd q e
          · exact q
        exact ⟨std_cons hu (ahead_cons h2 h) h, fun d => by rw [get]⟩
theorem ins_len (u : U) : ∀ l : List U, (ins u l).length ≤ l.length + 1
  | [] => by simp [ins]
  | x :: l => by
    have := ins_len u l
    rw [ins]
    split
    · simp; omega
    · split <;> simp
theorem put_std {l : List U} (h : Std l) (u : U) : Std (put l u) := by
  unfold put
  split
  · rename_i q; exact (ins_all q.1 h).1
  · exact h
theorem put_len (l : List U) (u : U) : (put l u).length ≤ l.length + 1 := by
  unfold put
  split
  · exact ins_len u l
  · omega
theorem get_put {l : List U} (h : Std l) (u : U) (d : D) : get (put l u) d = if ok u = true ∧ u.1 = d then max (get l d) u.2 else get l d := by
  unfold put
  by_cases q : ok u = true
  · by_cases g : get l u.1 < u.2
    · rw [if_pos ⟨q, g⟩, (ins_all q h).2]
      by_cases e : u.1 = d
      · rw [if_pos e, if_pos ⟨q, e⟩, ← e]; omega
      · rw [if_neg e, if_neg (fun k => e k.2)]
    · rw [if_neg (fun k => g k.2)]
      by_cases e : u.1 = d
      · rw [if_pos ⟨q, e⟩, ← e]; omega
      · rw [if_neg (fun k => e k.2)]
  · rw [if_neg (fun k => q k.1), if_neg (fun k => q k.1)]
/-- The program's way to lay one more. -/
def one (u : U) : List U := if ok u = true then [u] else []
theorem one_std (u : U) : Std (one u) := by
  unfold one
  split
  · rename_i q; exact std_cons q (fun _ h => by cases h) std_nil
  · exact std_nil
theorem get_one (u : U) (d : D) : get (one u) d = if ok u = true ∧ u.1 = d then u.2 else 0 := by
  unfold one
  by_cases q : ok u = true
  · rw [if_pos q, get, get]
    by_cases e : u.1 = d
    · rw [if_pos e, if_pos ⟨q, e⟩]
    · rw [if_neg e, if_neg (fun k => e k.2)]
  · rw [if_neg q, if_neg (fun k => q k.1), get]
theorem put_join {l : List U} (h : Std l) (u : U) : join l (one u) = put l u := by
  refine ext (join_std h (one_std u)) (put_std h u) fun d => ?_
  rw [get_join h (one_std u), get_put h, get_one]
  have := get_range h d
  split
  · rfl
  · omega
/-- The document's join: one by one. -/
def joins (a b : List U) : List U := b.foldl put a
theorem joins_all : ∀ {b a : List U}, Std a → Std b → Std (joins a b) ∧ ∀ d, get (joins a b) d = max (get a d) (get b d)
  | [], a, ha, _ => ⟨ha, fun d => by have := get_range ha d; simp only [joins, List.foldl_nil, get]; omega⟩
  | u :: b, a, ha, hb => by
    obtain ⟨s, g⟩ := joins_all (b := b) (a := put a u) (put_std ha u) (std_tail hb)
    refine ⟨s, fun d => ?_⟩
    rw [show joins a (u :: b) = joins (put a u) b from rfl, g, get_put ha, get]
    have hu := (std_head hb).1
    have pu := (ok_iff.1 hu).2
    have ra := get_range ha d
    by_cases e : u.1 = d
    · rw [if_pos ⟨hu, e⟩, if_pos e, get_ahead (l := b) (by rw [← e]; exact (std_head hb).2)]
      omega
    · rw [if_neg (fun k => e k.2), if_neg e]
theorem joins_join {a b : List U} (ha : Std a) (hb : Std b) : joins a b = join a b :=
  ext (joins_all ha hb).1 (join_std ha hb) fun d => by rw [(joins_all ha hb).2, get_join ha hb]
theorem joins_zero (a b : List U) : joins a (b.take 0) = a := by simp [joins]
theorem joins_step (a b : List U) (k : Nat) (h : k < b.length) : joins a (b.take (k + 1)) = put (joins a (b.take k)) b[k] := by
  unfold joins
  rw [List.take_succ_eq_append_getElem h, List.foldl_append]
  rfl
theorem joins_len : ∀ (b a : List U), (joins a b).length ≤ a.length + b.length
  | [], a => by simp [joins]
  | u :: b, a => by
    have h1 := joins_len b (put a u)
    have h2 := put_len a u
    rw [show joins a (u :: b) = joins (put a u) b from rfl]
    simp
    omega

/-! ### What follows (8.3) -/
theorem join_self {a : List U} (ha : Std a) : join a a = a := ext (join_std ha ha) ha fun d => by rw [get_join ha ha]; omega
theorem over_join {a b : List U} (ha : Std a) (hb : Std b) : over a (join a b) = [] := by
  unfold over
  rw [List.filter_eq_nil_iff]
  intro u hu
  have h1 := get_mem ha u hu
  have h2 := get_join ha hb u.1
  simp
  omega
end Ct
end Go.Proofs.YthlhopdlkkeohaaGreatDoor
