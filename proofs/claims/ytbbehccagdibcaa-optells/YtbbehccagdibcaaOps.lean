/- Operations as plain mathematics: how references stand, which rise, what is wrong with an operation, its bytes. -/
import Derived.Test.YtbbehccagdibcaaPaths
import Derived.Test.YtbbehccagdibcaaVals
import Derived.Test.YtbbehccagdibcaaDots
namespace Go.Proofs.Ytbbehccagdibcaa

/-- A dot; a reference: a dot and a place. -/
abbrev D := Int × Int
abbrev U := D × Int

namespace Os
/-! ### How references stand -/
def comp (x y : U) : Int := Dt.two (Dt.comp x.1.1 x.1.2 y.1.1 y.1.2) (Dt.compareInt x.2 y.2)
abbrev lt (x y : U) : Prop := x.1.1 < y.1.1 ∨ (x.1.1 = y.1.1 ∧ (x.1.2 < y.1.2 ∨ (x.1.2 = y.1.2 ∧ x.2 < y.2)))
theorem comp_cases (x y : U) : (lt x y ∧ comp x y = -1) ∨ (x = y ∧ comp x y = 0) ∨ (lt y x ∧ comp x y = 1) := by
  obtain ⟨⟨a, b⟩, c⟩ := x
  obtain ⟨⟨a', b'⟩, c'⟩ := y
  simp only [comp, Dt.two, lt, Prod.mk.injEq]
  have h1 := Dt.comp_cases a b a' b'
  have h2 := Dt.compareInt_cases c c'
  generalize Dt.comp a b a' b' = z at *
  generalize Dt.compareInt c c' = q at *
  split <;> omega
theorem lt_trans {x y z : U} (h : lt x y) (k : lt y z) : lt x z := by simp only [lt] at *; omega
theorem lt_irrefl (x : U) : ¬ lt x x := by simp only [lt]; omega
theorem lt_ne {x y : U} (h : lt x y) : x ≠ y := fun e => lt_irrefl x (by rw [← e] at h; exact h)
theorem comp_zero {x y : U} : comp x y = 0 ↔ x = y := by
  rcases comp_cases x y with ⟨h, e⟩ | ⟨h, e⟩ | ⟨h, e⟩
  · exact ⟨fun k => by omega, fun k => absurd k (lt_ne h)⟩
  · exact ⟨fun _ => h, fun _ => e⟩
  · exact ⟨fun k => by omega, fun k => absurd k.symm (lt_ne h)⟩
theorem comp_neg {x y : U} : comp x y = -1 ↔ lt x y := by
  rcases comp_cases x y with ⟨h, e⟩ | ⟨h, e⟩ | ⟨h, e⟩
  · exact ⟨fun _ => h, fun _ => e⟩
  · exact ⟨fun k => by omega, fun k => absurd h (lt_ne k)⟩
  · exact ⟨fun k => by omega, fun k => absurd (lt_trans h k) (lt_irrefl y)⟩
theorem cf_lt (x y : U) : decide (comp x y < 0) = decide (lt x y) := by
  rw [decide_eq_decide, ← comp_neg]
  rcases comp_cases x y with ⟨_, e⟩ | ⟨_, e⟩ | ⟨_, e⟩ <;> omega
theorem cf_eq (x y : U) : decide (comp x y = 0) = decide (x = y) := by rw [decide_eq_decide]; exact comp_zero

/-! ### References that rise -/
def ok (u : U) : Bool := Dt.right u.1.1 u.1.2 && decide (0 ≤ u.2) && decide (u.2 ≤ 15)
abbrev Ups (l : List U) : Prop := (∀ u ∈ l, ok u = true) ∧ l.Pairwise lt
def ups (l : List U) : Bool := decide (Ups l)
theorem ups_iff {l : List U} : ups l = true ↔ Ups l := by simp [ups]
theorem ups_nil : Ups [] := ⟨fun u h => by simp at h, List.Pairwise.nil⟩
theorem ups_step {l : List U} {k : Nat} (h : Ups (l.take k)) (hk : k < l.length) (ho : ok l[k] = true) (hl : k = 0 ∨ ∃ h1 : k - 1 < l.length, lt l[k - 1] l[k]) : Ups (l.take (k + 1)) := by
  rw [List.take_succ_eq_append_getElem hk]
  refine ⟨fun u hu => ?_, List.pairwise_append.2 ⟨h.2, List.pairwise_singleton _ _, fun a ha b hb => ?_⟩⟩
  · rcases List.mem_append.1 hu with hu | hu
    · exact h.1 u hu
    · rw [List.mem_singleton.1 hu]; exact ho
  · rw [List.mem_singleton.1 hb]
    obtain ⟨i, hi, rfl⟩ := List.mem_iff_getElem.1 ha
    rw [List.length_take] at hi
    rcases hl with rfl | ⟨h1, hl⟩
    · omega
    · rw [List.getElem_take]
      by_cases e : i = k - 1
      · subst e; exact hl
      · have := List.pairwise_iff_getElem.1 h.2 i (k - 1) (by rw [List.length_take]; omega) (by rw [List.length_take]; omega) (by omega)
        rw [List.getElem_take, List.getElem_take] at this
        exact lt_trans this hl
theorem not_ok {l : List U} {k : Nat} (hk : k < l.length) (ho : ok l[k] = false) : ups l = false := by
  cases e : ups l with
  | false => rfl
  | true => rw [(ups_iff.1 e).1 _ (List.getElem_mem hk)] at ho; cases ho
theorem not_lt {l : List U} {k : Nat} (hk : k + 1 < l.length) (ho : ¬ lt l[k] l[k + 1]) : ups l = false := by
  cases e : ups l with
  | false => rfl
  | true => exact absurd (List.pairwise_iff_getElem.1 (ups_iff.1 e).2 k (k + 1) (by omega) hk (by omega)) ho
theorem ok_parts (u : U) : ok u = (Dt.right u.1.1 u.1.2 && decide (0 ≤ u.2) && decide (u.2 ≤ 15)) := rfl

/-! ### Operations -/
structure Op where
  k : Int
  p : List (List UInt8)
  vk : Int
  vn : Int
  vs : List UInt8
  n : Int
  l : List U
/-- The leaf of a kind. -/
def leaf (k : Int) : Int := if k = 1 then 1 else if k = 2 ∨ k = 4 then 2 else if k = 3 then 3 else 0
def hv (k : Int) : Bool := decide (k = 1 ∨ k = 2 ∨ k = 4)
def ha (k : Int) : Bool := decide (k = 3)
def hs (k : Int) : Bool := decide (k = 1 ∨ k = 4 ∨ k = 5)
/-- The value, the amount that the kind asks for, or none. -/
def rv (o : Op) : Bool := if hv o.k = true then Vl.right o.vk o.vn o.vs else decide (o.vk = 0 ∧ o.vn = 0 ∧ o.vs = [])
def ra (o : Op) : Bool := if ha o.k = true then decide (o.n ≠ 0 ∧ -2147483647 ≤ o.n ∧ o.n ≤ 2147483647) else decide (o.n = 0)
/-- What is wrong with an operation. -/
def check (o : Op) : Nat :=
  if o.k < 1 ∨ 5 < o.k then 18 else if Pt.check o.p ≠ 0 then Pt.check o.p else
  if rv o = false ∨ ra o = false ∨ (hs o.k = false ∧ 0 < o.l.length) then 2 else if 256 < o.l.length then 7 else if ups o.l = false then 2 else 0
def same (a b : Op) : Bool := decide (a.k = b.k ∧ a.p = b.p ∧ (a.vk = b.vk ∧ a.vn = b.vn ∧ a.vs = b.vs) ∧ a.n = b.n ∧ a.l = b.l)
def gone (o : Op) : Bool := decide (o.k = 0 ∧ o.p = [] ∧ (o.vk = 0 ∧ o.vn = 0 ∧ o.vs = []) ∧ o.n = 0 ∧ o.l = [])
def short (o : Op) : Bool := Pt.short o.p && decide (o.vs.length ≤ 200) && decide (o.l.length ≤ 300)
theorem same_self (a : Op) : same a a = true := by simp [same]
theorem gone_is {o : Op} (h : gone o = true) : o = ⟨0, [], 0, 0, [], 0, []⟩ := by
  obtain ⟨k, p, vk, vn, vs, n, l⟩ := o
  simp only [gone, decide_eq_true_eq] at h
  obtain ⟨h1, h2, ⟨h3, h4, h5⟩, h6, h7⟩ := h
  subst h1 h2 h3 h4 h5 h6 h7
  rfl
theorem check_zero {o : Op} (h : check o = 0) : 1 ≤ o.k ∧ o.k ≤ 5 ∧ Pt.check o.p = 0 ∧ rv o = true ∧ ra o = true ∧ (hs o.k = true ∨ o.l = []) ∧ o.l.length ≤ 256 ∧ ups o.l = true := by
  unfold check at h
  split at h
  · omega
  · split at h
    · omega
    · split at h
      · omega
      · split at h
        · omega
        · split at h
          · omega
          · rename_i h1 h2 h3 h4 h5
            simp only [not_or, Bool.not_eq_false, not_and] at h3
            refine ⟨by omega, by omega, by omega, h3.1, h3.2.1, ?_, by omega, by simpa using h5⟩
            by_cases e : hs o.k = true
            · exact .inl e
            · have := h3.2.2 (by simpa using e)
              exact .inr (List.eq_nil_of_length_eq_zero (by omega))

/-! ### Bytes -/
def rcode (u : U) : List UInt8 := (Pk.enc u.1.1.toNat ++ Pk.enc u.1.2.toNat) ++ Pk.enc u.2.toNat
def rcodes (l : List U) : List UInt8 := l.flatMap rcode
def lcode (l : List U) : List UInt8 := Pk.enc l.length ++ rcodes l
/-- So many of the references' bytes, behind others. -/
def rTo (l : List U) (s : List UInt8) (k : Nat) : List UInt8 := s ++ rcodes (l.take k)
theorem rTo_zero (l : List U) (s : List UInt8) : rTo l s 0 = s := by simp [rTo, rcodes]
theorem rTo_step (l : List U) (s : List UInt8) {k : Nat} (h : k < l.length) : rTo l s (k + 1) = (rTo l s k ++ (Pk.enc (l[k]).1.1.toNat ++ Pk.enc (l[k]).1.2.toNat)) ++ Pk.enc (l[k]).2.toNat := by
  unfold rTo rcodes
  rw [List.take_succ_eq_append_getElem h, List.flatMap_append, List.flatMap_cons, List.flatMap_nil]
  simp only [rcode, List.append_nil, List.append_assoc]
theorem rTo_all (l : List U) (s : List UInt8) : rTo l s l.length = s ++ rcodes l := by simp [rTo]
theorem rcodes_cons (u : U) (l : List U) : rcodes (u :: l) = rcode u ++ rcodes l := rfl
theorem rcodes_drop {l : List U} {k : Nat} (h : k < l.length) : rcodes (l.drop k) = (Pk.enc (l[k]).1.1.toNat ++ Pk.enc (l[k]).1.2.toNat) ++ (Pk.enc (l[k]).2.toNat ++ rcodes (l.drop (k + 1))) := by
  rw [List.drop_eq_getElem_cons h, rcodes_cons, rcode]
  simp
/-- The numbers of right references are small. -/
theorem ok_small {u : U} (h : ok u = true) : (0 ≤ u.1.1 ∧ u.1.1 < 16) ∧ (1 ≤ u.1.2 ∧ u.1.2 ≤ 1048576) ∧ 0 ≤ u.2 ∧ u.2 ≤ 15 := by
  simp only [ok, Bool.and_eq_true, decide_eq_true_eq] at h
  have := Dt.right_iff.1 h.1.1
  omega
theorem rcode_len {u : U} (h : ok u = true) : (rcode u).length ≤ 27 := by
  have hs := ok_small h
  have h1 := Pk.enc_len9 (n := u.1.1.toNat) (by omega)
  have h2 := Pk.enc_len9 (n := u.1.2.toNat) (by omega)
  have h3 := Pk.enc_len9 (n := u.2.toNat) (by omega)
  simp only [rcode, List.length_append]
  omega
theorem rcode_pos (u : U) : 1 ≤ (rcode u).length := by
  have := Pk.enc_pos u.1.1.toNat
  simp only [rcode, List.length_append]
  omega
theorem rcodes_len : ∀ {l : List U}, (∀ u ∈ l, ok u = true) → (rcodes l).length ≤ 27 * l.length
  | [], _ => by simp [rcodes]
  | u :: l, h => by
    have h1 := rcodes_len (l := l) (fun x hx => h x (by simp [hx]))
    have h2 := rcode_len (h u (by simp))
    rw [rcodes_cons, List.length_append, List.length_cons]
    omega
theorem rcodes_ge : ∀ l : List U, l.length ≤ (rcodes l).length
  | [] => by simp
  | u :: l => by
    have h1 := rcodes_ge l
    have h2 := rcode_pos u
    rw [rcodes_cons, List.length_append, List.length_cons]
    omega
/-- An operation's bytes, behind its kind and path. -/
def tail (o : Op) : List UInt8 := (if hv o.k = true then Vl.code o.vk o.vn o.vs else []) ++ ((if ha o.k = true then Pk.enc (Vl.fold o.n).toNat else []) ++ (if hs o.k = true then lcode o.l else []))
def code (o : Op) : List UInt8 := if gone o = true then Pk.enc o.k.toNat else Pk.enc o.k.toNat ++ (Pt.code o.p ++ tail o)

/-! ### What is named once -/
theorem ups_nodup {l : List U} (h : Ups l) : l.Nodup := h.2.imp lt_ne
theorem count_le {l : List U} (h : Ups l) (x : U) : l.count x ≤ 1 := List.nodup_iff_count.1 (ups_nodup h)  x
theorem count_mem {l : List U} (h : Ups l) (x : U) : decide (x ∈ l) = decide ((l.count x : Int) = 1) := by
  rw [decide_eq_decide]
  have h1 := count_le h x
  have h2 := List.count_pos_iff (a := x) (l := l)
  constructor
  · intro k; have := h2.2 k; omega
  · intro k; exact h2.1 (by omega)
theorem count_step (l : List U) (x : U) {k : Nat} (h : k < l.length) : (l.take (k + 1)).count x = (l.take k).count x + (if l[k] = x then 1 else 0) := by
  rw [List.take_succ_eq_append_getElem h, List.count_append, List.count_singleton]
  by_cases e : l[k] = x <;> simp [e]
end Os
end Go.Proofs.Ytbbehccagdibcaa
