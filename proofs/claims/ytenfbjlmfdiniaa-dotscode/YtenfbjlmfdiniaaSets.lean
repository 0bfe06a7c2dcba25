/- Sets of dots as plain mathematics: the one way in which a set stands, and what brings one there. -/
import Derived.Test.YtenfbjlmfdiniaaThin
namespace Go.Proofs.Ytenfbjlmfdiniaa
namespace St

/-- The one stands ahead of the other. -/
abbrev lt (x y : D) : Prop := x.1 < y.1 ∨ (x.1 = y.1 ∧ x.2 < y.2)
theorem lt_trans {x y z : D} (h : lt x y) (k : lt y z) : lt x z := by unfold lt at *; omega
theorem lt_irrefl (x : D) : ¬ lt x x := by unfold lt; omega
theorem lt_or {x y : D} (h : ¬ lt x y) : x = y ∨ lt y x := by
  obtain ⟨a, b⟩ := x
  obtain ⟨c, d⟩ := y
  unfold lt at *
  simp at *
  omega
/-- A vector's number for a dot's replica. -/
abbrev at' (l : List Int) (d : D) : Int := l.getD d.1.toNat 0
/-- It stands as a right set does, but for how many there are. -/
structure Std (l : List Int) (ds : List D) : Prop where
  len : l.length = 16
  vec : Vc.right l = true
  gap : ∀ d ∈ ds, rightD d = true ∧ at' l d + 1 < d.2
  row : ds.Pairwise lt
/-- A dot of it. -/
def mem (l : List Int) (ds : List D) (d : D) : Prop := rightD d = true ∧ (d.2 ≤ at' l d ∨ d ∈ ds)
theorem right_at {d : D} (h : rightD d = true) : 0 ≤ d.1 ∧ d.1 < 16 ∧ 1 ≤ d.2 ∧ d.2 ≤ 1048576 := Dt.right_iff.1 h
theorem pair_eq : ∀ {a b : List D}, a.Pairwise lt → b.Pairwise lt → (∀ d, d ∈ a ↔ d ∈ b) → a = b
  | [], [], _, _, _ => rfl
  | [], y :: b, _, _, h => by have := (h y).2 (by simp); simp at this
  | x :: a, [], _, _, h => by have := (h x).1 (by simp); simp at this
  | x :: a, y :: b, ha, hb, h => by
    have ha' := List.pairwise_cons.1 ha
    have hb' := List.pairwise_cons.1 hb
    have hxy : x = y := by
      rcases List.mem_cons.1 ((h x).1 (by simp)) with e | e
      · exact e
      · rcases List.mem_cons.1 ((h y).2 (by simp)) with e2 | e2
        · exact e2.symm
        · exact absurd (lt_trans (ha'.1 y e2) (hb'.1 x e)) (lt_irrefl _)
    subst hxy
    congr 1
    refine pair_eq ha'.2 hb'.2 fun d => ?_
    constructor
    · intro hd
      rcases List.mem_cons.1 ((h d).1 (by simp [hd])) with e | e
      · subst e; exact absurd (ha'.1 d hd) (lt_irrefl _)
      · exact e
    · intro hd
      rcases List.mem_cons.1 ((h d).2 (by simp [hd])) with e | e
      · subst e; exact absurd (hb'.1 d hd) (lt_irrefl _)
      · exact e
theorem vec_le {l l' : List Int} {ds ds' : List D} (h : Std l ds) (h' : Std l' ds') (hm : ∀ d, mem l' ds' d → mem l ds d) (k : Nat) (hk : k < 16) : l'.getD k 0 ≤ l.getD k 0 := by
  by_cases hlt : l.getD k 0 < l'.getD k 0
  · exfalso
    have h1 := Vc.right_iff.1 h.vec k (by rw [h.len]; exact hk)
    have h2 := Vc.right_iff.1 h'.vec k (by rw [h'.len]; exact hk)
    have hr : rightD ((k : Int), l.getD k 0 + 1) = true := Dt.right_iff.2 (by simp only; omega)
    have hd : mem l' ds' ((k : Int), l.getD k 0 + 1) := ⟨hr, Or.inl (by simp only [at', Int.toNat_natCast]; omega)⟩
    obtain ⟨_, a | a⟩ := hm _ hd
    · simp only [at', Int.toNat_natCast] at a
      omega
    · have := (h.gap _ a).2
      simp only [at', Int.toNat_natCast] at this
      omega
  · omega
/-- A SET HAS ONE WAY TO STAND. -/
theorem unique {l l' : List Int} {ds ds' : List D} (h : Std l ds) (h' : Std l' ds') (hm : ∀ d, mem l ds d ↔ mem l' ds' d) : l = l' ∧ ds = ds' := by
  have e : l = l' := by
    refine Vc.same_of (h.len.trans h'.len.symm) fun k hk => ?_
    rw [h.len] at hk
    have := vec_le h h' (fun d => (hm d).2) k hk
    have := vec_le h' h (fun d => (hm d).1) k hk
    omega
  subst e
  refine ⟨rfl, pair_eq h.row h'.row fun d => ?_⟩
  constructor
  · intro hd
    have hg := h.gap d hd
    obtain ⟨_, a | a⟩ := (hm d).1 ⟨hg.1, Or.inr hd⟩
    · have := hg.2; omega
    · exact a
  · intro hd
    have hg := h'.gap d hd
    obtain ⟨_, a | a⟩ := (hm d).2 ⟨hg.1, Or.inr hd⟩
    · have := hg.2; omega
    · exact a

/-- A dot is laid behind a gap, or the vector takes it up. -/
def step (s : List Int × List D) (d : D) : List Int × List D :=
  if at' s.1 d + 1 < d.2 then (s.1, s.2 ++ [d]) else (s.1.set d.1.toNat (max (at' s.1 d) d.2), s.2)
/-- So are all of a list, one behind the other. -/
def fill (l : List Int) (ds : List D) : List Int × List D := ds.foldl step (l, [])
theorem at_set {l : List Int} {x d : D} (hl : l.length = 16) (hx : rightD x = true) (hd : rightD d = true) (v : Int) : at' (l.set d.1.toNat v) x = if x.1 = d.1 then v else at' l x := by
  have h1 := right_at hx
  have h2 := right_at hd
  simp only [at', List.getD]
  by_cases e : x.1 = d.1
  · rw [if_pos e, e, List.getElem?_set_self (by omega)]
    rfl
  · rw [if_neg e, List.getElem?_set_ne (by omega)]
theorem fill_go : ∀ (ds : List D) (l : List Int) (acc : List D), Std l acc → (∀ d ∈ ds, rightD d = true) → (acc ++ ds).Pairwise lt →
    Std (ds.foldl step (l, acc)).1 (ds.foldl step (l, acc)).2 ∧ (∀ d, mem (ds.foldl step (l, acc)).1 (ds.foldl step (l, acc)).2 d ↔ (mem l acc d ∨ d ∈ ds)) ∧ (ds.foldl step (l, acc)).2.length ≤ acc.length + ds.length
  | [], l, acc, h, _, _ => ⟨h, fun d => by simp, by simp⟩
  | d :: ds, l, acc, h, hr, hp => by
    have hd := hr d (by simp)
    have hd' := right_at hd
    have hvk := Vc.right_iff.1 h.vec d.1.toNat (by rw [h.len]; omega)
    rw [List.foldl_cons]
    by_cases hg : at' l d + 1 < d.2
    · rw [show step (l, acc) d = (l, acc ++ [d]) by unfold step; rw [if_pos hg]]
      have hp1 : (acc ++ [d] ++ ds).Pairwise lt := by rw [List.append_assoc]; exact hp
      have hp2 : (acc ++ [d]).Pairwise lt := (List.pairwise_append.1 hp1).1
      have hS : Std l (acc ++ [d]) := ⟨h.len, h.vec, fun x hx => by
        rcases List.mem_append.1 hx with e | e
        · exact h.gap x e
        · obtain rfl := List.mem_singleton.1 e
          exact ⟨hd, hg⟩, hp2⟩
      obtain ⟨a, b, c⟩ := fill_go ds l (acc ++ [d]) hS (fun x hx => hr x (by simp [hx])) hp1
      refine ⟨a, fun x => ?_, by simp at c ⊢; omega⟩
      rw [b x]
      unfold mem
      simp only [List.mem_append, List.mem_cons, List.not_mem_nil, or_false]
      constructor
      · rintro (⟨e1, e2 | e2 | e2⟩ | e)
        · exact Or.inl ⟨e1, Or.inl e2⟩
        · exact Or.inl ⟨e1, Or.inr e2⟩
        · exact Or.inr (Or.inl e2)
        · exact Or.inr (Or.inr e)
      · rintro (⟨e1, e2 | e2⟩ | e | e)
        · exact Or.inl ⟨e1, Or.inl e2⟩
        · exact Or.inl ⟨e1, Or.inr (Or.inl e2)⟩
        · subst e; exact Or.inl ⟨hd, Or.inr (Or.inr rfl)⟩
        · exact Or.inr e
    · rw [show step (l, acc) d = (l.set d.1.toNat (max (at' l d) d.2), acc) by unfold step; rw [if_neg hg]]
      have hp1 : (acc ++ ds).Pairwise lt := hp.sublist (by simp)
      have hne : ∀ x ∈ acc, x.1 ≠ d.1 := fun x hx e => by
        have h1 := (List.pairwise_append.1 hp).2.2 x hx d (by simp)
        have h2 := (h.gap x hx).2
        simp only [at', e] at h2
        unfold lt at h1
        simp only [at'] at hg
        omega
      have hS : Std (l.set d.1.toNat (max (at' l d) d.2)) acc := ⟨by simpa using h.len, by
        rw [Vc.right_iff]
        intro k hk
        have hk' : k < l.length := by simpa using hk
        have := Vc.right_iff.1 h.vec k hk'
        simp only [List.getD, List.getElem?_set]
        simp only [List.getD] at this hvk
        by_cases e : d.1.toNat = k
        · subst e
          rw [if_pos rfl, if_pos hk']
          simp only [Option.getD_some]
          omega
        · rw [if_neg e]
          exact this, fun x hx => ⟨(h.gap x hx).1, by
        rw [at_set h.len (h.gap x hx).1 hd, if_neg (hne x hx)]
        exact (h.gap x hx).2⟩, h.row⟩
      obtain ⟨a, b, c⟩ := fill_go ds _ acc hS (fun x hx => hr x (by simp [hx])) hp1
      refine ⟨a, fun x => ?_, by simp at c ⊢; omega⟩
      rw [b x]
      unfold mem
      simp only [List.mem_cons]
      constructor
      · rintro (⟨e1, e2 | e2⟩ | e)
        · rw [at_set h.len e1 hd] at e2
          by_cases e : x.1 = d.1
          · rw [if_pos e] at e2
            by_cases e3 : x.2 ≤ at' l x
            · exact Or.inl ⟨e1, Or.inl e3⟩
            · have e4 : at' l x = at' l d := by simp only [at', e]
              right; left
              obtain ⟨x1, x2⟩ := x
              obtain ⟨d1, d2⟩ := d
              simp only [at'] at *
              subst e
              have : x2 = d2 := by omega
              rw [this]
          · rw [if_neg e] at e2
            exact Or.inl ⟨e1, Or.inl e2⟩
        · exact Or.inl ⟨e1, Or.inr e2⟩
        · exact Or.inr (Or.inr e)
      · rintro (⟨e1, e2 | e2⟩ | e | e)
        · left
          refine ⟨e1, Or.inl ?_⟩
          rw [at_set h.len e1 hd]
          by_cases e : x.1 = d.1
          · rw [if_pos e]
            have e4 : at' l x = at' l d := by simp only [at', e]
            omega
          · rw [if_neg e]
            exact e2
        · exact Or.inl ⟨e1, Or.inr e2⟩
        · subst e
          left
          refine ⟨hd, Or.inl ?_⟩
          rw [at_set h.len hd hd, if_pos rfl]
          omega
        · exact Or.inr e
theorem fill_std {l : List Int} {ds : List D} (hl : l.length = 16) (hv : Vc.right l = true) (hr : ∀ d ∈ ds, rightD d = true) (hp : ds.Pairwise lt) :
    Std (fill l ds).1 (fill l ds).2 ∧ (∀ d, mem (fill l ds).1 (fill l ds).2 d ↔ (mem l [] d ∨ d ∈ ds)) ∧ (fill l ds).2.length ≤ ds.length := by
  have h := fill_go ds l [] ⟨hl, hv, fun d hd => by simp at hd, List.Pairwise.nil⟩ hr (by simpa using hp)
  simpa [fill] using h

/-- Not behind. -/
def le (x y : D) : Prop := ¬ lt y x
theorem le_trans {x y z : D} (h : le x y) (k : le y z) : le x z := by unfold le lt at *; omega
/-- What stands in a row, each once. -/
theorem dd_row (ds : List D) (h : ds.Pairwise le) : ∀ k, k ≤ ds.length → (ddTo ds k).Pairwise lt ∧ (∀ d, d ∈ ddTo ds k ↔ d ∈ ds.take k) ∧ (ddTo ds k).length ≤ k
  | 0, _ => by simp [ddTo]
  | k + 1, hk => by
    obtain ⟨a, b, c⟩ := dd_row ds h k (by omega)
    have ht : ds.take (k + 1) = ds.take k ++ [ds[k]] := List.take_succ_eq_append_getElem (by omega)
    by_cases h0 : k = 0
    · subst h0
      rw [ddTo_one (by omega)]
      refine ⟨?_, fun d => Iff.rfl, by simp; omega⟩
      rw [ht]
      simp
    · by_cases he : ds[k] = ds[k - 1]
      · rw [ddTo_old (by omega) (by omega) he]
        refine ⟨a, fun d => ?_, by omega⟩
        rw [b d, ht]
        simp only [List.mem_append, List.mem_cons, List.not_mem_nil, or_false]
        constructor
        · exact Or.inl
        · rintro (e | e)
          · exact e
          · rw [e, he]
            rw [List.mem_take_iff_getElem]
            exact ⟨k - 1, by omega, rfl⟩
      · rw [ddTo_new (by omega) (by omega) he]
        refine ⟨?_, fun d => ?_, by simp; omega⟩
        · rw [List.pairwise_append]
          refine ⟨a, by simp, fun x hx y hy => ?_⟩
          obtain rfl := List.mem_singleton.1 hy
          rw [b x, List.mem_take_iff_getElem] at hx
          obtain ⟨i, hi, rfl⟩ := hx
          have h1 : le ds[k - 1] ds[k] := List.pairwise_iff_getElem.1 h (k - 1) k (by omega) (by omega) (by omega)
          have h2 : lt ds[k - 1] ds[k] := by
            rcases lt_or h1 with e | e
            · exact absurd e he
            · exact e
          by_cases ei : i = k - 1
          · subst ei; exact h2
          · have h3 : le ds[i] ds[k - 1] := List.pairwise_iff_getElem.1 h i (k - 1) (by omega) (by omega) (by omega)
            unfold le at h3
            unfold lt at *
            omega
        · rw [ht]
          simp only [List.mem_append, List.mem_cons, List.not_mem_nil, or_false, b d]
/-- Dots put in a place of a row. -/
def put (d : D) : List D → List D
  | [] => [d]
  | x :: ds => if lt d x then d :: x :: ds else x :: put d ds
theorem put_mem (d x : D) : ∀ ds : List D, x ∈ put d ds ↔ (x = d ∨ x ∈ ds)
  | [] => by simp [put]
  | y :: ds => by
    unfold put
    split
    · simp
    · have := put_mem d x ds
      simp only [List.mem_cons, this]
      constructor
      · rintro (e | e | e)
        · exact Or.inr (Or.inl e)
        · exact Or.inl e
        · exact Or.inr (Or.inr e)
      · rintro (e | e | e)
        · exact Or.inr (Or.inl e)
        · exact Or.inl e
        · exact Or.inr (Or.inr e)
theorem put_len (d : D) : ∀ ds : List D, (put d ds).length = ds.length + 1
  | [] => rfl
  | y :: ds => by
    unfold put
    split
    · simp
    · simp [put_len d ds]
theorem put_row (d : D) : ∀ ds : List D, ds.Pairwise lt → d ∉ ds → (put d ds).Pairwise lt
  | [], _, _ => by simp [put]
  | x :: ds, h, hn => by
    have h' := List.pairwise_cons.1 h
    unfold put
    split
    · rename_i hl
      refine List.pairwise_cons.2 ⟨fun y hy => ?_, h⟩
      rcases List.mem_cons.1 hy with e | e
      · subst e; exact hl
      · exact lt_trans hl (h'.1 y e)
    · rename_i hl
      refine List.pairwise_cons.2 ⟨fun y hy => ?_, put_row d ds h'.2 (fun e => hn (by simp [e]))⟩
      rw [put_mem] at hy
      rcases hy with e | e
      · subst e
        rcases lt_or hl with e1 | e1
        · exact absurd (by simp [e1]) hn
        · exact e1
      · exact h'.1 y e

/-- A set that stands right, of just these dots. -/
def Is (s : List Int × List D) (M : D → Prop) : Prop := Std s.1 s.2 ∧ ∀ d, mem s.1 s.2 d ↔ M d
theorem Is.eq {s t : List Int × List D} {M N : D → Prop} (h : Is s M) (k : Is t N) (e : ∀ d, M d ↔ N d) : s = t := by
  obtain ⟨a, b⟩ := unique h.1 k.1 fun d => (h.2 d).trans ((e d).trans (k.2 d).symm)
  exact Prod.ext a b
theorem mem_nil {l : List Int} {d : D} : mem l [] d ↔ Vc.has l d.1 d.2 = true := by
  rw [Vc.has_iff]
  simp [mem]
/-- Has, of a set that stands right: decided. -/
def has (l : List Int) (ds : List D) (d : D) : Bool := decide (d ∈ ds) || Vc.has l d.1 d.2
theorem has_iff {l : List Int} {ds : List D} (h : Std l ds) (d : D) : has l ds d = true ↔ mem l ds d := by
  unfold has mem
  rw [Bool.or_eq_true, decide_eq_true_iff, Vc.has_iff]
  constructor
  · rintro (e | e)
    · exact ⟨(h.gap d e).1, Or.inr e⟩
    · exact ⟨e.1, Or.inl e.2⟩
  · rintro ⟨e1, e2 | e2⟩
    · exact Or.inr ⟨e1, e2⟩
    · exact Or.inl e2
end St
end Go.Proofs.Ytenfbjlmfdiniaa
