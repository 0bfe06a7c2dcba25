/- Registers as plain mathematics (for stage 14): how values stand, a value in its place, rows that rise are told by who is among them, the last item, values that do not cover each other. -/
import Derived.Test.YthlhopdlkkeohaaGreatDoorLivesAll
namespace Go.Proofs.YthlhopdlkkeohaaGreatDoor
namespace Rg
open Go.Lib

/-- A value: its kind, its number, its text. -/
abbrev Va := Int × Int × List UInt8
/-! ### How values stand -/
def comp (x y : Va) : Int := Dt.two (Dt.compareInt x.1 y.1) (Dt.two (Dt.compareInt x.2.1 y.2.1) (compareBytes x.2.2 y.2.2))
theorem comp_cases (x y : Va) : comp x y = -1 ∨ comp x y = 0 ∨ comp x y = 1 := by
  unfold comp Dt.two
  have h1 := Dt.compareInt_cases x.1 y.1
  have h2 := Dt.compareInt_cases x.2.1 y.2.1
  have h3 := Pt.cb_cases x.2.2 y.2.2
  split
  · split <;> omega
  · omega
theorem comp_turn (x y : Va) : comp y x = - comp x y := by
  obtain ⟨k, n, l⟩ := x
  obtain ⟨k', n', l'⟩ := y
  simp only [comp, Dt.two]
  have h1 := Dt.compareInt_cases k k'
  have h2 := Dt.compareInt_cases n n'
  have h4 := Dt.compareInt_cases k' k
  have h5 := Dt.compareInt_cases n' n
  have h3 := Pt.cb_turn l l'
  generalize Dt.compareInt k k' = x1 at *
  generalize Dt.compareInt n n' = x2 at *
  generalize Dt.compareInt k' k = x3 at *
  generalize Dt.compareInt n' n = x4 at *
  by_cases e1 : x1 = 0
  · have e3 : x3 = 0 := by omega
    rw [if_pos e1, if_pos e3]
    by_cases e2 : x2 = 0
    · have e4 : x4 = 0 := by omega
      rw [if_pos e2, if_pos e4, h3]
    · have e4 : x4 ≠ 0 := by omega
      rw [if_neg e2, if_neg e4]; omega
  · have e3 : x3 ≠ 0 := by omega
    rw [if_neg e1, if_neg e3]; omega
theorem comp_zero {x y : Va} : comp x y = 0 ↔ x = y := by
  obtain ⟨k, n, l⟩ := x
  obtain ⟨k', n', l'⟩ := y
  simp only [comp, Dt.two, Prod.mk.injEq]
  have h1 := Dt.compareInt_cases k k'
  have h2 := Dt.compareInt_cases n n'
  generalize Dt.compareInt k k' = x1 at *
  generalize Dt.compareInt n n' = x2 at *
  by_cases e1 : x1 = 0
  · rw [if_pos e1]
    by_cases e2 : x2 = 0
    · rw [if_pos e2]
      constructor
      · intro h; exact ⟨by omega, by omega, Pt.cb_zero h⟩
      · rintro ⟨_, _, rfl⟩; exact Pt.cb_self _
    · rw [if_neg e2]
      constructor
      · intro h; omega
      · rintro ⟨_, h, _⟩; omega
  · rw [if_neg e1]
    constructor
    · intro h; omega
    · rintro ⟨h, _, _⟩; omega
theorem two_two (x y z : Int) : (x ≠ 0 ∧ (if x = 0 then if y = 0 then z else y else x) = x) ∨ (x = 0 ∧ y ≠ 0 ∧ (if x = 0 then if y = 0 then z else y else x) = y) ∨ (x = 0 ∧ y = 0 ∧ (if x = 0 then if y = 0 then z else y else x) = z) := by
  by_cases h : x = 0
  · by_cases h' : y = 0
    · simp [h, h']
    · simp [h, h']
  · simp [h]
theorem comp_trans {x y z : Va} (h : comp x y ≤ 0) (h' : comp y z ≤ 0) : comp x z ≤ 0 := by
  obtain ⟨k, n, l⟩ := x
  obtain ⟨k', n', l'⟩ := y
  obtain ⟨k'', n'', l''⟩ := z
  simp only [comp, Dt.two] at *
  have t := Pt.cb_trans l l' l''
  have h1 := Dt.compareInt_cases k k'
  have h2 := Dt.compareInt_cases n n'
  have h3 := Dt.compareInt_cases k' k''
  have h4 := Dt.compareInt_cases n' n''
  have h5 := Dt.compareInt_cases k k''
  have h6 := Dt.compareInt_cases n n''
  generalize Dt.compareInt k k' = x1 at *
  generalize Dt.compareInt n n' = x2 at *
  generalize Dt.compareInt k' k'' = x3 at *
  generalize Dt.compareInt n' n'' = x4 at *
  generalize Dt.compareInt k k'' = x5 at *
  generalize Dt.compareInt n n'' = x6 at *
  generalize compareBytes l l' = y1 at *
  generalize compareBytes l' l'' = y2 at *
  generalize compareBytes l l'' = y3 at *
  have A := two_two x1 x2 y1
  have B := two_two x3 x4 y2
  have C := two_two x5 x6 y3
  generalize (if x1 = 0 then if x2 = 0 then y1 else x2 else x1) = a at *
  generalize (if x3 = 0 then if x4 = 0 then y2 else x4 else x3) = b at *
  generalize (if x5 = 0 then if x6 = 0 then y3 else x6 else x5) = c at *
  omega
abbrev lt (x y : Va) : Prop := comp x y = -1
theorem lt_irrefl (x : Va) : ¬ lt x x := fun h => by
  have := (comp_zero (x := x) (y := x)).2 rfl
  simp only [lt] at h; omega
theorem lt_trans {x y z : Va} (h : lt x y) (k : lt y z) : lt x z := by
  simp only [lt] at *
  have h1 := comp_trans (x := x) (y := y) (z := z) (by omega) (by omega)
  rcases comp_cases x z with e | e | e
  · exact e
  · have := comp_zero.1 e
    subst this
    have := comp_turn x y
    omega
  · omega
theorem lt_ne {x y : Va} (h : lt x y) : x ≠ y := fun e => lt_irrefl x (by rw [← e] at h; exact h)
theorem lt_not {x y : Va} (h : lt x y) : ¬ lt y x := fun k => lt_irrefl x (lt_trans h k)
theorem tri (x y : Va) : (lt x y ∧ comp x y = -1) ∨ (x = y ∧ comp x y = 0) ∨ (lt y x ∧ comp x y = 1) := by
  rcases comp_cases x y with e | e | e
  · exact .inl ⟨e, e⟩
  · exact .inr (.inl ⟨comp_zero.1 e, e⟩)
  · refine .inr (.inr ⟨?_, e⟩)
    have := comp_turn x y
    simp only [lt]; omega
theorem le_iff {x y : Va} : comp x y ≤ 0 ↔ lt x y ∨ x = y := by
  rcases tri x y with ⟨h, e⟩ | ⟨h, e⟩ | ⟨h, e⟩
  · exact ⟨fun _ => .inl h, fun _ => by omega⟩
  · exact ⟨fun _ => .inr h, fun _ => by omega⟩
  · exact ⟨fun k => by omega, fun k => by
      rcases k with k | k
      · exact absurd k (lt_not h)
      · exact absurd k.symm (lt_ne h)⟩

/-! ### Rows that rise -/
abbrev Rise (l : List Va) : Prop := l.Pairwise lt
theorem Rise.nodup {l : List Va} (h : Rise l) : l.Nodup := h.imp fun k => lt_ne k
theorem rise_eq : ∀ {a b : List Va}, Rise a → Rise b → (∀ x, x ∈ a ↔ x ∈ b) → a = b
  | [], [], _, _, _ => rfl
  | [], y :: b, _, _, h => absurd ((h y).2 (by simp)) (by simp)
  | x :: a, [], _, _, h => absurd ((h x).1 (by simp)) (by simp)
  | x :: a, y :: b, ha, hb, h => by
    obtain ⟨ha1, ha2⟩ := List.pairwise_cons.1 ha
    obtain ⟨hb1, hb2⟩ := List.pairwise_cons.1 hb
    have e : x = y := by
      rcases List.mem_cons.1 ((h x).1 (by simp)) with e | e
      · exact e
      · rcases List.mem_cons.1 ((h y).2 (by simp)) with e' | e'
        · exact e'.symm
        · exact absurd (ha1 y e') (lt_not (hb1 x e))
    subst e
    rw [rise_eq ha2 hb2 fun z => ?_]
    constructor
    · intro hz
      rcases List.mem_cons.1 ((h z).1 (by simp [hz])) with e | e
      · exact absurd (ha1 z hz) (by rw [e]; exact lt_irrefl x)
      · exact e
    · intro hz
      rcases List.mem_cons.1 ((h z).2 (by simp [hz])) with e | e
      · exact absurd (hb1 z hz) (by rw [e]; exact lt_irrefl x)
      · exact e
/-- Neighbours that are the same as one. -/
def thin : List Va → List Va
  | [] => []
  | [x] => [x]
  | x :: y :: r => if x = y then thin (y :: r) else x :: thin (y :: r)
theorem mem_thin {z : Va} : ∀ {l : List Va}, z ∈ thin l ↔ z ∈ l
  | [] => Iff.rfl
  | [x] => Iff.rfl
  | x :: y :: r => by
    have ih := mem_thin (z := z) (l := y :: r)
    rw [thin]
    split
    · rename_i e
      subst e
      rw [ih]; simp
    · rw [List.mem_cons, ih, List.mem_cons (l := y :: r)]
theorem thin_rise : ∀ {l : List Va}, (l.Pairwise fun a b => comp a b ≤ 0) → Rise (thin l)
  | [], _ => List.Pairwise.nil
  | [x], _ => List.pairwise_singleton _ _
  | x :: y :: r, h => by
    obtain ⟨h1, h2⟩ := List.pairwise_cons.1 h
    have ih := thin_rise h2
    rw [thin]
    split
    · exact ih
    · rename_i ne
      refine List.pairwise_cons.2 ⟨fun z hz => ?_, ih⟩
      have hz' := mem_thin.1 hz
      have hxy : lt x y := by
        rcases le_iff.1 (h1 y (by simp)) with k | k
        · exact k
        · exact absurd k ne
      rcases List.mem_cons.1 hz' with e | e
      · rw [e]; exact hxy
      · rcases le_iff.1 ((List.pairwise_cons.1 h2).1 z e) with k | k
        · exact lt_trans hxy k
        · rw [← k]; exact hxy

/-! ### A value in its place -/
def ins (v : Va) : List Va → List Va
  | [] => [v]
  | x :: r => if comp v x = 0 then x :: r else if comp v x < 0 then v :: x :: r else x :: ins v r
theorem mem_ins {v y : Va} : ∀ {l : List Va}, y ∈ ins v l ↔ y = v ∨ y ∈ l
  | [] => by simp [ins]
  | x :: r => by
    have ih := mem_ins (v := v) (y := y) (l := r)
    rw [ins]
    split
    · rename_i e
      have := comp_zero.1 e
      subst this
      simp
    · split
      · simp
      · rw [List.mem_cons, ih, List.mem_cons]
        constructor
        · rintro (h | h | h)
          · exact .inr (.inl h)
          · exact .inl h
          · exact .inr (.inr h)
        · rintro (h | h | h)
          · exact .inr (.inl h)
          · exact .inl h
          · exact .inr (.inr h)
theorem ins_rise {v : Va} : ∀ {l : List Va}, Rise l → Rise (ins v l)
  | [], _ => List.pairwise_singleton _ _
  | x :: r, h => by
    obtain ⟨h1, h2⟩ := List.pairwise_cons.1 h
    rw [ins]
    split
    · exact h
    · rename_i n0
      split
      · rename_i n1
        have hv : lt v x := by
          rcases tri v x with ⟨k, e⟩ | ⟨k, e⟩ | ⟨k, e⟩
          · exact k
          · exact absurd e n0
          · omega
        refine List.pairwise_cons.2 ⟨fun y hy => ?_, h⟩
        rcases List.mem_cons.1 hy with e | e
        · rw [e]; exact hv
        · exact lt_trans hv (h1 y e)
      · rename_i n1
        have hv : lt x v := by
          rcases tri v x with ⟨k, e⟩ | ⟨k, e⟩ | ⟨k, e⟩
          · omega
          · exact absurd e n0
          · exact k
        refine List.pairwise_cons.2 ⟨fun y hy => ?_, ins_rise h2⟩
        rcases mem_ins.1 hy with e | e
        · rw [e]; exact hv
        · exact h1 y e
theorem ins_len (v : Va) : ∀ l : List Va, (ins v l).length ≤ l.length + 1
  | [] => by simp [ins]
  | x :: r => by
    have ih := ins_len v r
    rw [ins]
    split
    · simp
    · split
      · simp
      · simp only [List.length_cons]; omega
/-- Place by place, as a loop does it that lays what it finds: up to the first that is not behind v. -/
theorem ins_split {v : Va} : ∀ {l : List Va} {k : Nat} (_ : k ≤ l.length), (∀ j, ∀ h : j < l.length, j < k → lt l[j] v) → (∀ h : k < l.length, lt v l[k]) → ins v l = l.take k ++ v :: l.drop k
  | [], k, hk, _, _ => by
    have : k = 0 := by simpa using hk
    subst this
    rfl
  | x :: r, 0, _, _, h2 => by
    have hv : lt v x := h2 (by simp)
    rw [ins, if_neg (by simp only [lt] at hv; omega), if_pos (by simp only [lt] at hv; omega)]
    rfl
  | x :: r, k + 1, hk, h1, h2 => by
    have hv : lt x v := h1 0 (by simp) (by omega)
    have ht := comp_turn x v
    simp only [lt] at hv
    rw [ins, if_neg (by omega), if_neg (by omega)]
    rw [ins_split (l := r) (k := k) (by simpa using hk) (fun j h hj => h1 (j + 1) (by simpa using h) (by omega)) (fun h => h2 (by simpa using h))]
    rfl
theorem ins_there {v : Va} : ∀ {l : List Va}, Rise l → v ∈ l → ins v l = l := fun {l} h hv =>
  rise_eq (ins_rise h) h fun y => by rw [mem_ins]; exact ⟨fun k => by rcases k with k | k; (· rw [k]; exact hv); (· exact k), .inr⟩
def vals (l : List Va) : List Va := l.foldl (fun a v => ins v a) []
theorem vals_snoc (l : List Va) (v : Va) : vals (l ++ [v]) = ins v (vals l) := by simp [vals]
theorem vals_step (l : List Va) {k : Nat} (h : k < l.length) : vals (l.take (k + 1)) = ins l[k] (vals (l.take k)) := by
  rw [List.take_succ_eq_append_getElem h, vals_snoc]
theorem fold_mem {y : Va} : ∀ {l a : List Va}, y ∈ l.foldl (fun a v => ins v a) a ↔ y ∈ l ∨ y ∈ a
  | [], a => by simp
  | v :: l, a => by
    rw [List.foldl_cons, fold_mem (l := l), mem_ins, List.mem_cons]
    constructor
    · rintro (h | h | h)
      · exact .inl (.inr h)
      · exact .inl (.inl h)
      · exact .inr h
    · rintro ((h | h) | h)
      · exact .inr (.inl h)
      · exact .inl h
      · exact .inr (.inr h)
theorem mem_vals {l : List Va} {y : Va} : y ∈ vals l ↔ y ∈ l := by
  unfold vals
  rw [fold_mem]; simp
theorem fold_rise : ∀ {l a : List Va}, Rise a → Rise (l.foldl (fun a v => ins v a) a)
  | [], _, h => h
  | v :: l, a, h => by
    rw [List.foldl_cons]
    exact fold_rise (ins_rise h)
theorem vals_rise (l : List Va) : Rise (vals l) := fold_rise List.Pairwise.nil
theorem fold_len : ∀ (l a : List Va), (l.foldl (fun a v => ins v a) a).length ≤ l.length + a.length
  | [], a => by simp
  | v :: l, a => by
    rw [List.foldl_cons]
    have h1 := fold_len l (ins v a)
    have h2 := ins_len v a
    simp only [List.length_cons]; omega
theorem vals_len (l : List Va) : (vals l).length ≤ l.length := by
  have := fold_len l []
  simpa [vals] using this
/-- Whoever rises, and holds the same, is it. -/
theorem vals_is {l a : List Va} (ha : Rise a) (h : ∀ x, x ∈ a ↔ x ∈ l) : a = vals l := rise_eq ha (vals_rise l) fun x => by rw [h, mem_vals]
/-- Sorted, and neighbours that are the same as one. -/
theorem vals_thin {l s : List Va} (hs : s.Pairwise fun a b => comp a b ≤ 0) (h : ∀ x, x ∈ s ↔ x ∈ l) : thin s = vals l := vals_is (thin_rise hs) fun x => by rw [mem_thin, h]
/-! ### The last one -/
def valOf (i : Lv.Item) : Va := (i.o.vk, i.o.vn, i.o.vs)
/-- Does i stand behind b? -/
def later (i b : Lv.Item) : Bool := decide (b.t < i.t ∨ (i.t = b.t ∧ 0 < Os.comp i.x b.x))
theorem later_iff {i b : Lv.Item} : later i b = true ↔ b.t < i.t ∨ (i.t = b.t ∧ Os.lt b.x i.x) := by
  simp only [later, decide_eq_true_eq]
  rcases Os.comp_cases i.x b.x with ⟨h, e⟩ | ⟨h, e⟩ | ⟨h, e⟩
  · rw [e]
    constructor
    · rintro (k | ⟨_, k⟩)
      · exact .inl k
      · omega
    · rintro (k | ⟨_, k⟩)
      · exact .inl k
      · exact absurd (Os.lt_trans h k) (Os.lt_irrefl _)
  · rw [e]
    constructor
    · rintro (k | ⟨_, k⟩)
      · exact .inl k
      · omega
    · rintro (k | ⟨_, k⟩)
      · exact .inl k
      · exact absurd h.symm (Os.lt_ne k)
  · rw [e]
    constructor
    · rintro (k | ⟨q, _⟩)
      · exact .inl k
      · exact .inr ⟨q, h⟩
    · rintro (k | ⟨q, _⟩)
      · exact .inl k
      · exact .inr ⟨q, by omega⟩
theorem later_irrefl (i : Lv.Item) : later i i = false := by
  cases e : later i i with
  | false => rfl
  | true =>
    rcases later_iff.1 e with k | ⟨_, k⟩
    · omega
    · exact absurd k (Os.lt_irrefl _)
theorem later_trans {a b c : Lv.Item} (h : later a b = true) (k : later b c = true) : later a c = true := by
  rcases later_iff.1 h with h | ⟨h1, h2⟩ <;> rcases later_iff.1 k with k | ⟨k1, k2⟩
  · exact later_iff.2 (.inl (by omega))
  · exact later_iff.2 (.inl (by omega))
  · exact later_iff.2 (.inl (by omega))
  · exact later_iff.2 (.inr ⟨by omega, Os.lt_trans k2 h2⟩)
def lastFrom (b : Lv.Item) (l : List Lv.Item) : Lv.Item := l.foldl (fun b i => if later i b = true then i else b) b
theorem lastFrom_mem : ∀ (l : List Lv.Item) (b : Lv.Item), lastFrom b l = b ∨ lastFrom b l ∈ l
  | [], b => .inl rfl
  | i :: l, b => by
    show lastFrom (if later i b = true then i else b) l = b ∨ lastFrom (if later i b = true then i else b) l ∈ i :: l
    rcases lastFrom_mem l (if later i b = true then i else b) with e | e
    · rw [e]
      split
      · exact .inr (by simp)
      · exact .inl rfl
    · exact .inr (List.mem_cons_of_mem _ e)
theorem lastFrom_top : ∀ (l : List Lv.Item) (b : Lv.Item), later b (lastFrom b l) = false ∧ ∀ i ∈ l, later i (lastFrom b l) = false
  | [], b => ⟨later_irrefl b, fun i hi => by simp at hi⟩
  | j :: l, b => by
    obtain ⟨h1, h2⟩ := lastFrom_top l (if later j b = true then j else b)
    show later b (lastFrom (if later j b = true then j else b) l) = false ∧ ∀ i ∈ j :: l, later i (lastFrom (if later j b = true then j else b) l) = false
    generalize lastFrom (if later j b = true then j else b) l = z at *
    by_cases q : later j b = true
    · rw [if_pos q] at h1
      have hb : later b z = false := by
        cases e : later b z with
        | false => rfl
        | true => rw [later_trans q e] at h1; cases h1
      exact ⟨hb, fun i hi => by
        rcases List.mem_cons.1 hi with e | e
        · rw [e]; exact h1
        · exact h2 i e⟩
    · rw [if_neg q] at h1
      have hj : later j z = false := by
        cases e : later j z with
        | false => rfl
        | true =>
          have n1 : ¬ (z.t < b.t ∨ (b.t = z.t ∧ Os.lt z.x b.x)) := fun k => by rw [later_iff.2 k] at h1; cases h1
          have n2 : ¬ (b.t < j.t ∨ (j.t = b.t ∧ Os.lt b.x j.x)) := fun k => q (later_iff.2 k)
          rcases later_iff.1 e with k | ⟨k1, k2⟩
          · exfalso; omega
          · exfalso
            have e1 : b.t = z.t := by omega
            have e2 : j.t = b.t := by omega
            rcases Os.comp_cases b.x z.x with ⟨w, _⟩ | ⟨w, _⟩ | ⟨w, _⟩
            · exact n2 (.inr ⟨e2, Os.lt_trans w k2⟩)
            · exact n2 (.inr ⟨e2, by rw [w]; exact k2⟩)
            · exact n1 (.inr ⟨e1, w⟩)
      exact ⟨h1, fun i hi => by
        rcases List.mem_cons.1 hi with e | e
        · rw [e]; exact hj
        · exact h2 i e⟩
/-- The document's: the first one, and whoever is later. -/
def last : List Lv.Item → Option Lv.Item
  | [] => none
  | b :: l => some (lastFrom b l)
theorem refs_inj : ∀ {l : List Lv.Item}, (Lv.refs l).Nodup → ∀ {a b : Lv.Item}, a ∈ l → b ∈ l → a.x = b.x → a = b
  | [], _, _, _, h, _, _ => by simp at h
  | c :: l, hn, a, b, ha, hb, e => by
    obtain ⟨n1, n2⟩ := List.nodup_cons.1 (show (c.x :: Lv.refs l).Nodup from hn)
    rcases List.mem_cons.1 ha with h | h <;> rcases List.mem_cons.1 hb with k | k
    · rw [h, k]
    · exact absurd (List.mem_map.2 ⟨b, k, by rw [← e, h]⟩) n1
    · exact absurd (List.mem_map.2 ⟨a, h, by rw [e, k]⟩) n1
    · exact refs_inj n2 h k e
/-! ### The references of what counts rise -/
theorem items_rise {cov : U → Bool} {d : D} {tm : Int} : ∀ {os : List Os.Op} {k : Nat}, (Lv.refs (Lv.items cov d tm k os)).Pairwise Os.lt
  | [], k => by simp [Lv.items, Lv.refs]
  | o :: r, k => by
    have ih := items_rise (cov := cov) (d := d) (tm := tm) (os := r) (k := k + 1)
    rw [Lv.items_cons]
    split
    · refine List.pairwise_cons.2 ⟨fun y hy => ?_, ih⟩
      obtain ⟨i, hi, rfl⟩ := List.mem_map.1 hy
      obtain ⟨j, h, _, _, e⟩ := Lv.mem_items.1 hi
      rw [e]
      exact .inr ⟨rfl, .inr ⟨rfl, by show (k : Int) < ((k + 1 + j : Nat) : Int); omega⟩⟩
    · exact ih
theorem allBy_rise {cov : U → Bool} {sn : D → Bool} : ∀ {l : List Tx.Txn}, Tx.Rises l → (Lv.refs (Lv.allBy cov sn l)).Pairwise Os.lt
  | [], _ => by simp [Lv.allBy, Lv.refs]
  | t :: r, h => by
    obtain ⟨h1, h2⟩ := List.pairwise_cons.1 h
    have ih := allBy_rise (cov := cov) (sn := sn) h2
    have e : Lv.allBy cov sn (t :: r) = Lv.itemsOf cov sn t ++ Lv.allBy cov sn r := by simp [Lv.allBy]
    rw [e]
    unfold Lv.refs at *
    rw [List.map_append]
    refine List.pairwise_append.2 ⟨?_, ih, fun a ha b hb => ?_⟩
    · unfold Lv.itemsOf
      split
      · exact items_rise
      · exact List.Pairwise.nil
    · obtain ⟨i, hi, rfl⟩ := List.mem_map.1 ha
      obtain ⟨j, hj, rfl⟩ := List.mem_map.1 hb
      have ei := Lv.itemsOf_dot i hi
      unfold Lv.allBy at hj
      obtain ⟨u, hu, hj⟩ := List.mem_flatMap.1 hj
      have ej := Lv.itemsOf_dot j hj
      have k := h1 u hu
      rw [← ei, ← ej] at k
      simp only [Tx.dlt] at k
      simp only [Os.lt]
      omega
theorem all_rise {sn : D → Bool} {l : List Tx.Txn} (h : Tx.Rises l) : (Lv.refs (Lv.all l sn)).Pairwise Os.lt := allBy_rise h
theorem all_nodup {sn : D → Bool} {l : List Tx.Txn} (h : Tx.Rises l) : (Lv.refs (Lv.all l sn)).Nodup := (all_rise h).imp fun k => Os.lt_ne k
theorem leaf_nodup {l : List Lv.Item} (h : (Lv.refs l).Nodup) (p : List (List UInt8)) (leaf : Int) : (Lv.refs (Lv.atLeaf l p leaf)).Nodup := by
  unfold Lv.atLeaf Lv.refs at *
  exact List.Sublist.nodup (List.filter_sublist.map _) h

/-! ### Values that do not cover each other -/
def putOp (p : List (List UInt8)) (v : Va) : Os.Op := ⟨1, p, v.1, v.2.1, v.2.2, 0, []⟩
def putT (p : List (List UInt8)) (k : Nat) (v : Va) : Tx.Txn := ⟨((k : Int), 1), 0, 1, false, [putOp p v]⟩
def both (p : List (List UInt8)) : Nat → List Va → List Tx.Txn
  | _, [] => []
  | k, v :: r => putT p k v :: both p (k + 1) r
theorem both_append (p : List (List UInt8)) : ∀ (a b : List Va) (k : Nat), both p k (a ++ b) = both p k a ++ both p (k + a.length) b
  | [], b, k => by simp [both]
  | v :: a, b, k => by
    rw [List.cons_append, both, both, both_append p a b (k + 1), List.length_cons, show k + (a.length + 1) = k + 1 + a.length by omega]
    rfl
theorem both_mem {p : List (List UInt8)} {t : Tx.Txn} : ∀ {l : List Va} {k : Nat}, t ∈ both p k l → ∃ v ∈ l, ∃ j, t = putT p j v
  | [], k, h => by simp [both] at h
  | v :: r, k, h => by
    rcases List.mem_cons.1 h with e | e
    · exact ⟨v, by simp, k, e⟩
    · obtain ⟨u, hu, j, e⟩ := both_mem e
      exact ⟨u, List.mem_cons_of_mem _ hu, j, e⟩
theorem both_len (p : List (List UInt8)) : ∀ (l : List Va) (k : Nat), (both p k l).length = l.length
  | [], _ => rfl
  | v :: r, k => by rw [both, List.length_cons, List.length_cons, both_len p r]
theorem both_uncovered (p : List (List UInt8)) (l : List Va) (k : Nat) (sn : D → Bool) (x : U) : Lv.covered (both p k l) sn x = false := by
  cases e : Lv.covered (both p k l) sn x with
  | false => rfl
  | true =>
    unfold Lv.covered at e
    obtain ⟨t, ht, h⟩ := List.any_eq_true.1 e
    obtain ⟨v, _, j, rfl⟩ := both_mem ht
    simp [putT, putOp, Lv.names] at h
theorem both_items (p : List (List UInt8)) {cov : U → Bool} {sn : D → Bool} (hs : ∀ d, sn d = true) (hc : ∀ x, cov x = false) : ∀ (l : List Va) (k : Nat), (Lv.atLeaf (Lv.allBy cov sn (both p k l)) p 1).map valOf = l
  | [], _ => rfl
  | v :: r, k => by
    have ih := both_items p hs hc r (k + 1)
    have e : Lv.allBy cov sn (both p k (v :: r)) = ⟨(((k : Int), 1), 0), putOp p v, 1⟩ :: Lv.allBy cov sn (both p (k + 1) r) := by
      simp [both, Lv.allBy, Lv.itemsOf, putT, hs, Lv.items, hc, Lv.able, putOp]
    rw [e]
    unfold Lv.atLeaf at *
    rw [List.filter_cons_of_pos (by simp [putOp, Os.leaf]), List.map_cons, ih]
    rfl
/-- All of them are there. -/
theorem both_all (p : List (List UInt8)) {sn : D → Bool} (hs : ∀ d, sn d = true) (l : List Va) : (Lv.atLeaf (Lv.all (both p 0 l) sn) p 1).map valOf = l := both_items p hs (both_uncovered p l 0 sn) l 0
end Rg
end Go.Proofs.YthlhopdlkkeohaaGreatDoor
