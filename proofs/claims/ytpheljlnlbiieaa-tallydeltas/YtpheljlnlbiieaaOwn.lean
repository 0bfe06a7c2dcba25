/- Rows of counts that a call owns: what is stored into one, and cleared. -/
import Derived.Test.YtpheljlnlbiieaaMem
import Derived.Laws.IdiomCopy
import Derived.Shelf.Abstract
namespace Go.Proofs.Ytpheljlnlbiieaa
open Go.RowKit Go.Shelf

/-- A block begins with these counts, and may be written there. -/
def Own (w : World) (g : Nat) (l : List U) : Prop := g < w.heap.size ∧ ∀ k (h : k < l.length),
  CAt w ⟨g, k * 3, none⟩ l[k] ∧ w.frozen? ⟨g, k * 3, none⟩ = false ∧ w.frozen? ⟨g, k * 3 + 1, none⟩ = false ∧ w.frozen? ⟨g, k * 3 + 2, none⟩ = false
theorem Own.on {w w' : World} {g : Nat} {l : List U} (h : Own w g l) (hb : Below w.heap.size w w') : Own w' g l := by
  refine ⟨Nat.lt_of_lt_of_le h.1 hb.size, fun k hk => ?_⟩
  obtain ⟨a, b, c, d⟩ := h.2 k hk
  exact ⟨a.on hb, (hb.frozen (p := ⟨g, k * 3, none⟩) h.1).trans b, (hb.frozen (p := ⟨g, k * 3 + 1, none⟩) h.1).trans c, (hb.frozen (p := ⟨g, k * 3 + 2, none⟩) h.1).trans d⟩
theorem add_zero (g k : Nat) : (⟨g, 0, none⟩ : Addr).add k = ⟨g, k, none⟩ := by unfold Addr.add; split <;> simp_all
theorem Own.in {w : World} {g cap : Nat} {l : List U} (h : Own w g l) (hc : l.length ≤ cap) : cntsIn w (.slice (some ⟨g, 0, none⟩) l.length cap) l := by
  refine ⟨some ⟨g, 0, none⟩, cap, rfl, hc, fun e => by simp at e, fun k hk => ⟨⟨g, 0, none⟩, rfl, ?_⟩⟩
  rw [add_zero]
  exact (h.2 k hk).1
theorem addr_ne {g a b : Nat} (h : a ≠ b) : ¬ (⟨g, a, none⟩ : Addr) = ⟨g, b, none⟩ := fun e => h (by cases e; rfl)
abbrev set3 (w : World) (g i : Nat) (x : U) : World := ((w.setCell ⟨g, i * 3, none⟩ (.int .i64 x.1.1)).setCell ⟨g, i * 3 + 1, none⟩ (.int .i64 x.1.2)).setCell ⟨g, i * 3 + 2, none⟩ (.int .i64 x.2)
theorem set3_same {w : World} {g i : Nat} {x u : U} (h : CAt w ⟨g, i * 3, none⟩ u) : CAt (set3 w g i x) ⟨g, i * 3, none⟩ x := by
  obtain ⟨a, b, c⟩ := h
  have n1 : ¬ (⟨g, i * 3, none⟩ : Addr) = ⟨g, i * 3 + 1, none⟩ := addr_ne (by omega)
  have n2 : ¬ (⟨g, i * 3, none⟩ : Addr) = ⟨g, i * 3 + 2, none⟩ := addr_ne (by omega)
  have n3 : ¬ (⟨g, i * 3 + 1, none⟩ : Addr) = ⟨g, i * 3 + 2, none⟩ := addr_ne (by omega)
  have n4 : ¬ (⟨g, i * 3 + 1, none⟩ : Addr) = ⟨g, i * 3, none⟩ := addr_ne (by omega)
  have n5 : ¬ (⟨g, i * 3 + 2, none⟩ : Addr) = ⟨g, i * 3, none⟩ := addr_ne (by omega)
  have n6 : ¬ (⟨g, i * 3 + 2, none⟩ : Addr) = ⟨g, i * 3 + 1, none⟩ := addr_ne (by omega)
  refine ⟨?_, ?_, ?_⟩
  · exact (World.cell?_setCell_other _ _ _ _ (by first | exact n2 | exact n5)).trans ((World.cell?_setCell_other _ _ _ _ (by first | exact n1 | exact n4)).trans (World.cell?_setCell_same _ _ _ a))
  · exact (World.cell?_setCell_other _ _ _ _ (by first | exact n3 | exact n6)).trans (World.cell?_setCell_same _ _ _ ((World.cell?_setCell_other _ _ _ _ (by first | exact n1 | exact n4)).trans b))
  · exact World.cell?_setCell_same _ _ _ ((World.cell?_setCell_other _ _ _ _ (by first | exact n3 | exact n6)).trans ((World.cell?_setCell_other _ _ _ _ (by first | exact n2 | exact n5)).trans c))
theorem set3_cell {w : World} {g i j : Nat} {x : U} (h0 : j ≠ i * 3) (h1 : j ≠ i * 3 + 1) (h2 : j ≠ i * 3 + 2) : (set3 w g i x).cell? ⟨g, j, none⟩ = w.cell? ⟨g, j, none⟩ := by
  have m0 : ¬ (⟨g, j, none⟩ : Addr) = ⟨g, i * 3, none⟩ := addr_ne h0
  have m1 : ¬ (⟨g, j, none⟩ : Addr) = ⟨g, i * 3 + 1, none⟩ := addr_ne h1
  have m2 : ¬ (⟨g, j, none⟩ : Addr) = ⟨g, i * 3 + 2, none⟩ := addr_ne h2
  have k0 : ¬ (⟨g, i * 3, none⟩ : Addr) = ⟨g, j, none⟩ := fun e => m0 e.symm
  have k1 : ¬ (⟨g, i * 3 + 1, none⟩ : Addr) = ⟨g, j, none⟩ := fun e => m1 e.symm
  have k2 : ¬ (⟨g, i * 3 + 2, none⟩ : Addr) = ⟨g, j, none⟩ := fun e => m2 e.symm
  exact (World.cell?_setCell_other _ _ _ _ (by first | exact m2 | exact k2)).trans ((World.cell?_setCell_other _ _ _ _ (by first | exact m1 | exact k1)).trans (World.cell?_setCell_other _ _ _ _ (by first | exact m0 | exact k0)))
theorem Own.set {w : World} {g : Nat} {l : List U} (h : Own w g l) (i : Nat) (x : U) : Own (set3 w g i x) g (l.set i x) := by
  refine ⟨by simpa using h.1, fun k hk => ?_⟩
  have hk' : k < l.length := by simpa using hk
  obtain ⟨a, d, e, f⟩ := h.2 k hk'
  refine ⟨?_, by simpa using d, by simpa using e, by simpa using f⟩
  by_cases q : i = k
  · subst q
    rw [List.getElem_set_self]
    exact set3_same a
  · rw [List.getElem_set_ne q]
    exact ⟨(set3_cell (by omega) (by omega) (by omega)).trans a.1, (set3_cell (j := k * 3 + 1) (by omega) (by omega) (by omega)).trans a.2.1, (set3_cell (j := k * 3 + 2) (by omega) (by omega) (by omega)).trans a.2.2⟩
theorem Own.take {w : World} {g : Nat} {l : List U} (h : Own w g l) (i : Nat) : Own w g (l.take i) := by
  refine ⟨h.1, fun k hk => ?_⟩
  have hk' : k < l.length := by simp at hk; omega
  rw [List.getElem_take]
  exact h.2 k hk'
theorem setCells_frame (g : Nat) : ∀ (vs : List Value) (o : Nat) (w : World) (B : Nat), B ≤ g → (∀ k, k < o → (w.setCells g o vs).cell? ⟨g, k, none⟩ = w.cell? ⟨g, k, none⟩ ∧ (w.setCells g o vs).frozen? ⟨g, k, none⟩ = w.frozen? ⟨g, k, none⟩) ∧ Below B w (w.setCells g o vs) ∧ (w.setCells g o vs).heap.size = w.heap.size
  | [], o, w, B, _ => ⟨fun _ _ => ⟨rfl, rfl⟩, Below.refl _ _, rfl⟩
  | v :: vs, o, w, B, hB => by
    obtain ⟨h1, h2, h3⟩ := setCells_frame g vs (o + 1) (w.setCell ⟨g, o, none⟩ v) B hB
    rw [World.setCells]
    refine ⟨fun k hk => ?_, ?_, by rw [h3]; simp⟩
    · obtain ⟨a, b⟩ := h1 k (by omega)
      rw [a, b]
      exact ⟨World.cell?_setCell_other _ _ _ _ (addr_ne (by omega)), by simp⟩
    · exact ((Below.refl _ _).setCell (p := ⟨g, o, none⟩) hB v).trans h2
theorem Own.clear {w : World} {g : Nat} {l : List U} (h : Own w g l) (i : Nat) (vs : List Value) : Own (w.setCells g (i * 3) vs) g (l.take i) := by
  obtain ⟨h1, h2, h3⟩ := setCells_frame g vs (i * 3) w g (Nat.le_refl _)
  refine ⟨by rw [h3]; exact h.1, fun k hk => ?_⟩
  have hk' : k < i := by simp at hk; omega
  obtain ⟨⟨a, b, c⟩, d, e, f⟩ := (h.take i).2 k hk
  exact ⟨⟨(h1 _ (by omega)).1.trans a, (h1 _ (by simp; omega)).1.trans b, (h1 _ (by simp; omega)).1.trans c⟩, (h1 _ (by omega)).2.trans d, (h1 _ (by omega)).2.trans e, (h1 _ (by omega)).2.trans f⟩
theorem zero26 (w : World) : (zeroValue 26).run Try.prog w = .ok (.agg #[.int .i64 0, .int .i64 0, .int .i64 0]) w := Try.zeroValue26 w
/-- What lies behind place i is cleared. -/
theorem Own.clears {w : World} {g : Nat} {l : List U} (h : Own w g l) (i : Nat) (hi : i < l.length) (c : Nat) : ∃ vs, ∀ ty, (Builtin.clear_ #[22] ty #[.slice (some ⟨g, i * 3, none⟩) (l.length - i) c]).run Try.prog w = .ok (.tuple #[]) (w.setCells g (i * 3) vs) := by
  have hl : (Builtin.zeroCells #[.int .i64 0, .int .i64 0, .int .i64 0] (l.length - i)).toList.length = (l.length - i) * 3 := by simp [Builtin.zeroCells]
  have ho : ∀ v ∈ (Builtin.zeroCells #[Value.int .i64 0, .int .i64 0, .int .i64 0] (l.length - i)).toList, v.oneCell' = true := by
    intro v hv
    simp only [Builtin.zeroCells, Array.toList_map, List.mem_map] at hv
    obtain ⟨j, _, rfl⟩ := hv
    have : j % 3 = 0 ∨ j % 3 = 1 ∨ j % 3 = 2 := by omega
    rcases this with e | e | e <;> simp [e, Value.oneCell']
  refine ⟨(Builtin.zeroCells #[Value.int .i64 0, .int .i64 0, .int .i64 0] (l.length - i)).toList, fun ty => ?_⟩
  have key : ∀ j, j < (l.length - i) * 3 → (w.cell? ⟨g, i * 3 + j, none⟩).isSome = true ∧ w.frozen? ⟨g, i * 3 + j, none⟩ = false := fun j hj => by
    have hk : i + j / 3 < l.length := by omega
    obtain ⟨⟨a, b, c⟩, d, e, f⟩ := h.2 (i + j / 3) hk
    simp only at a b c
    have : j % 3 = 0 ∨ j % 3 = 1 ∨ j % 3 = 2 := by omega
    rcases this with q | q | q
    · rw [show i * 3 + j = (i + j / 3) * 3 by omega]
      exact ⟨by rw [a]; rfl, d⟩
    · rw [show i * 3 + j = (i + j / 3) * 3 + 1 by omega]
      exact ⟨by rw [b]; rfl, e⟩
    · rw [show i * 3 + j = (i + j / 3) * 3 + 2 by omega]
      exact ⟨by rw [c]; rfl, f⟩
  have hst := run_storeCells_cells (P := Try.prog) g (i * 3) (Builtin.zeroCells #[Value.int .i64 0, .int .i64 0, .int .i64 0] (l.length - i)).toList 0 w (fun j hj => by rw [Nat.add_zero]; exact (key j (by rw [← hl]; exact hj)).1) (fun j hj => by rw [Nat.add_zero]; exact (key j (by rw [← hl]; exact hj)).2) ho
  simp only [Nat.add_zero] at hst
  obtain ⟨m, hm⟩ : ∃ m, l.length - i = m + 1 := ⟨l.length - i - 1, by omega⟩
  rw [hm] at hst ⊢
  simp [Builtin.clear_, run_underlying Try.underlying22, Value.cells, hst]
/-- A row that a call owns may be written. -/
theorem Own.of {w : World} {B g n cap : Nat} {l : List U} (h : w.ownsRow B 26 3 (.slice (some ⟨g, 0, none⟩) n cap) l.length (ucells l)) : Own w g l ∧ l.length ≤ cap ∧ cap ≤ maxLen ∧ B ≤ g ∧ n = l.length := by
  have hc := h.cells rfl
  rcases h.2 with ⟨e, _⟩ | ⟨g', cap', cur, e, hbg, hg, r1, r2, r3, r4⟩
  · cases e
  · cases e
    refine ⟨⟨(Array.getElem?_eq_some_iff.1 hg).1, fun k hk => ⟨?_, frozen_of_row w g _ _ 26 hg, frozen_of_row w g _ _ 26 hg, frozen_of_row w g _ _ 26 hg⟩⟩, r1, r2, hbg, rfl⟩
    obtain ⟨q0, q1, q2⟩ := ucells_at l k hk
    refine ⟨?_, ?_, ?_⟩
    · have := hc _ _ q0; rwa [add_zero] at this
    · have := hc _ _ q1; rwa [add_zero] at this
    · have := hc _ _ q2; rwa [add_zero] at this
end Go.Proofs.Ytpheljlnlbiieaa
