/- The union of sets, and whether one is within another, as plain mathematics. -/
import Derived.Test.YtenfbjlmfdiniaaUnion
namespace Go.Proofs.Ytenfbjlmfdiniaa
open Go.RowKit Go.Shelf

/-- The union as the program tells it. -/
def uni (s t : List Int × List D) : List Int × List D := settled (Vc.join s.1 t.1) (s.2 ++ t.2)
theorem uni_is {s t : List Int × List D} (hs : St.Std s.1 s.2) (ht : St.Std t.1 t.2) : St.Is (uni s t) (fun d => St.mem s.1 s.2 d ∨ St.mem t.1 t.2 d) ∧ (uni s t).2.length ≤ s.2.length + t.2.length := by
  obtain ⟨a, b⟩ := settled_is (l := Vc.join s.1 t.1) (s.2 ++ t.2) (by rw [Vc.join_length]; exact hs.len) (join_right (hs.len.trans ht.len.symm) hs.vec ht.vec)
  refine ⟨⟨a.1, fun d => ?_⟩, by rw [List.length_append] at b; exact b⟩
  refine (a.2 d).trans ?_
  show (St.mem (Vc.join s.1 t.1) [] d ∨ d ∈ s.2 ++ t.2 ∧ rightD d = true) ↔ (St.mem s.1 s.2 d ∨ St.mem t.1 t.2 d)
  rw [St.mem_nil, Vc.has_join _ _ _ _ hs.len, Bool.or_eq_true, Vc.has_iff, Vc.has_iff, List.mem_append]
  unfold St.mem
  constructor
  · rintro ((⟨e1, e2⟩ | ⟨e1, e2⟩) | ⟨e1 | e1, e2⟩)
    · exact Or.inl ⟨e1, Or.inl e2⟩
    · exact Or.inr ⟨e1, Or.inl e2⟩
    · exact Or.inl ⟨e2, Or.inr e1⟩
    · exact Or.inr ⟨e2, Or.inr e1⟩
  · rintro (⟨e1, e2 | e2⟩ | ⟨e1, e2 | e2⟩)
    · exact Or.inl (Or.inl ⟨e1, e2⟩)
    · exact Or.inr ⟨Or.inl e2, e1⟩
    · exact Or.inl (Or.inr ⟨e1, e2⟩)
    · exact Or.inr ⟨Or.inr e2, e1⟩
theorem self_is {s : List Int × List D} (hs : St.Std s.1 s.2) : St.Is s (fun d => St.mem s.1 s.2 d) := ⟨hs, fun _ => Iff.rfl⟩
theorem uni_turn {s t : List Int × List D} (hs : St.Std s.1 s.2) (ht : St.Std t.1 t.2) : uni t s = uni s t :=
  (uni_is ht hs).1.eq (uni_is hs ht).1 fun _ => Or.comm
theorem uni_on {s t r : List Int × List D} (hs : St.Std s.1 s.2) (ht : St.Std t.1 t.2) (hr : St.Std r.1 r.2) : uni (uni s t) r = uni s (uni t r) := by
  have h1 := (uni_is hs ht).1
  have h2 := (uni_is ht hr).1
  refine (uni_is h1.1 hr).1.eq (uni_is hs h2.1).1 fun d => ?_
  rw [h1.2 d, h2.2 d]
  exact or_assoc
theorem uni_self {s : List Int × List D} (hs : St.Std s.1 s.2) : uni s s = s :=
  (uni_is hs hs).1.eq (self_is hs) fun _ => or_self_iff
theorem has_uni {s t : List Int × List D} (hs : St.Std s.1 s.2) (ht : St.Std t.1 t.2) (d : D) : St.has (uni s t).1 (uni s t).2 d = (St.has s.1 s.2 d || St.has t.1 t.2 d) := by
  have h := (uni_is hs ht).1
  rw [Bool.eq_iff_iff, Bool.or_eq_true, St.has_iff h.1, St.has_iff hs, St.has_iff ht]
  exact h.2 d
/-- Within, as the program tells it. -/
def wit (s t : List Int × List D) : Bool := Vc.within s.1 t.1 && !(s.2.any fun d => !St.has t.1 t.2 d)
theorem wit_iff {s t : List Int × List D} (hs : St.Std s.1 s.2) (ht : St.Std t.1 t.2) : wit s t = true ↔ ∀ d, St.mem s.1 s.2 d → St.mem t.1 t.2 d := by
  unfold wit
  rw [Bool.and_eq_true, Vc.within_iff, Bool.not_eq_true', List.any_eq_false]
  constructor
  · rintro ⟨h1, h2⟩ d ⟨e1, e2 | e2⟩
    · have := St.right_at e1
      have := h1 d.1.toNat (by rw [hs.len]; omega)
      exact ⟨e1, Or.inl (by simp only [St.at'] at *; omega)⟩
    · have := h2 d e2
      rw [Bool.not_eq_true', Bool.not_eq_false] at this
      exact (St.has_iff ht d).1 this
  · intro h
    refine ⟨fun k hk => ?_, fun d hd => ?_⟩
    · rw [hs.len] at hk
      exact St.vec_le ht hs h k hk
    · rw [Bool.not_eq_true', Bool.not_eq_false, St.has_iff ht]
      exact h d ⟨(hs.gap d hd).1, Or.inr hd⟩
theorem wit_same {s t : List Int × List D} (hs : St.Std s.1 s.2) (ht : St.Std t.1 t.2) : (decide ((uni s t).1 = t.1) && decide ((uni s t).2 = t.2)) = wit s t := by
  have h := (uni_is hs ht).1
  rw [Bool.eq_iff_iff, wit_iff hs ht, Bool.and_eq_true, decide_eq_true_iff, decide_eq_true_iff]
  constructor
  · rintro ⟨e1, e2⟩ d hd
    have := (h.2 d).2 (Or.inl hd)
    rw [e1, e2] at this
    exact this
  · intro hw
    have e : uni s t = t := h.eq (self_is ht) fun d => ⟨fun k => k.elim (hw d) id, Or.inr⟩
    rw [e]
    exact ⟨rfl, rfl⟩
theorem wit_uni {s t : List Int × List D} (hs : St.Std s.1 s.2) (ht : St.Std t.1 t.2) : wit s (uni s t) = true :=
  (wit_iff hs (uni_is hs ht).1.1).2 fun d hd => ((uni_is hs ht).1.2 d).2 (Or.inl hd)
end Go.Proofs.Ytenfbjlmfdiniaa
