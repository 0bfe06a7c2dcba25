/- Rows of dots that a call owns: what is stored into one, and cleared; the walk of slices.DeleteFunc. -/
import Derived.Test.YtenfbjlmfdiniaaFind
import Derived.Test.YtenfbjlmfdiniaaConcat
import Derived.Laws.IdiomCopy
namespace Go.Proofs.Ytenfbjlmfdiniaa
open Go.RowKit Go.Shelf

/-- A block begins with these dots, and may be written there. -/
def Own (w : World) (g : Nat) (ds : List D) : Prop := g < w.heap.size ∧ ∀ k (h : k < ds.length),
  w.cell? ⟨g, k * 2, none⟩ = some (.int .i64 (ds[k]).1) ∧ w.cell? ⟨g, k * 2 + 1, none⟩ = some (.int .i64 (ds[k]).2) ∧ w.frozen? ⟨g, k * 2, none⟩ = false ∧ w.frozen? ⟨g, k * 2 + 1, none⟩ = false
theorem Own.on {w w' : World} {g : Nat} {ds : List D} (h : Own w g ds) (hb : Below w.heap.size w w') : Own w' g ds := by
  refine ⟨Nat.lt_of_lt_of_le h.1 hb.size, fun k hk => ?_⟩
  obtain ⟨a, b, c, d⟩ := h.2 k hk
  exact ⟨(hb.cell (p := ⟨g, k * 2, none⟩) h.1).trans a, (hb.cell (p := ⟨g, k * 2 + 1, none⟩) h.1).trans b, (hb.frozen (p := ⟨g, k * 2, none⟩) h.1).trans c, (hb.frozen (p := ⟨g, k * 2 + 1, none⟩) h.1).trans d⟩
theorem Own.in {w : World} {g cap : Nat} {ds : List D} (h : Own w g ds) : dotsIn w (.slice (some ⟨g, 0, none⟩) ds.length cap) ds := by
  refine dotsIn_of fun j u hu => ?_
  have e : (⟨g, 0, none⟩ : Addr).add j = ⟨g, j, none⟩ := by unfold Addr.add; split <;> simp_all
  rw [e]
  obtain ⟨k, hk, ⟨rfl, rfl⟩ | ⟨rfl, rfl⟩⟩ := dcells_get ds j u hu
  · exact (h.2 k hk).1
  · exact (h.2 k hk).2.1
theorem addr_ne {g a b : Nat} (h : a ≠ b) : ¬ (⟨g, a, none⟩ : Addr) = ⟨g, b, none⟩ := fun e => h (by cases e; rfl)
theorem Own.set {w : World} {g : Nat} {ds : List D} (h : Own w g ds) (i : Nat) (x : D) : Own ((w.setCell ⟨g, i * 2, none⟩ (.int .i64 x.1)).setCell ⟨g, i * 2 + 1, none⟩ (.int .i64 x.2)) g (ds.set i x) := by
  refine ⟨by simpa using h.1, fun k hk => ?_⟩
  have hk' : k < ds.length := by simpa using hk
  obtain ⟨a, b, c, d⟩ := h.2 k hk'
  refine ⟨?_, ?_, by simpa using c, by simpa using d⟩
  · by_cases e : i = k
    · subst e
      rw [World.cell?_setCell_other _ _ _ _ (addr_ne (by omega)), World.cell?_setCell_same _ _ _ a]
      simp
    · rw [World.cell?_setCell_other _ _ _ _ (addr_ne (by omega)), World.cell?_setCell_other _ _ _ _ (addr_ne (by omega)), a]
      simp [e]
  · by_cases e : i = k
    · subst e
      rw [World.cell?_setCell_same _ _ _ ((World.cell?_setCell_other _ _ _ _ (addr_ne (by omega))).trans b)]
      simp
    · rw [World.cell?_setCell_other _ _ _ _ (addr_ne (by omega)), World.cell?_setCell_other _ _ _ _ (addr_ne (by omega)), b]
      simp [e]
theorem Own.take {w : World} {g : Nat} {ds : List D} (h : Own w g ds) (i : Nat) : Own w g (ds.take i) := by
  refine ⟨h.1, fun k hk => ?_⟩
  have hk' : k < ds.length := by simp at hk; omega
  rw [List.getElem_take]
  exact h.2 k hk'
theorem setCells_frame (g : Nat) : ∀ (vs : List Value) (o : Nat) (w : World) (B : Nat), B ≤ g → (∀ k, k < o → (w.setCells g o vs).cell? ⟨g, k, none⟩ = w.cell? ⟨g, k, none⟩ ∧ (w.setCells g o vs).frozen? ⟨g, k, none⟩ = w.frozen? ⟨g, k, none⟩) ∧ Below B w (w.setCells g o vs) ∧ (w.setCells g o vs).heap.size = w.heap.size
  | [], o, w, B, _ => ⟨fun _ _ => ⟨rfl, rfl⟩, Below.refl _ _, rfl⟩
  | v :: vs, o, w, B, hB => by
    obtain ⟨h1, h2, h3⟩ := setCells_frame g vs (o + 1) (w.setCell ⟨g, o, none⟩ v) B hB
    rw [World.setCells]
    refine ⟨fun k hk => ?_, ?_, by rw [h3]; simp⟩
    · obtain ⟨a, b⟩ := h1 k (by omega)
      rw [a, b]
      exact ⟨World.cell?_setCell_other _ _ _ _ (addr_ne (by omega)), by simp⟩
    · exact ((Below.refl _ _).setCell (p := ⟨g, o, none⟩) hB v).trans h2
theorem Own.clear {w : World} {g : Nat} {ds : List D} (h : Own w g ds) (i : Nat) (vs : List Value) : Own (w.setCells g (i * 2) vs) g (ds.take i) := by
  obtain ⟨h1, h2, h3⟩ := setCells_frame g vs (i * 2) w g (Nat.le_refl _)
  refine ⟨by rw [h3]; exact h.1, fun k hk => ?_⟩
  have hk' : k < i := by simp at hk; omega
  obtain ⟨a, b, c, d⟩ := (h.take i).2 k hk
  exact ⟨(h1 _ (by omega)).1.trans a, (h1 _ (by omega)).1.trans b, (h1 _ (by omega)).2.trans c, (h1 _ (by omega)).2.trans d⟩
theorem zero28 (w : World) : (zeroValue 28).run Try.prog w = .ok (.agg #[.int .i64 0, .int .i64 0]) w := Try.zeroValue28 w
/-- What lies behind place i is cleared. -/
theorem Own.clears {w : World} {g : Nat} {ds : List D} (h : Own w g ds) (i : Nat) (hi : i < ds.length) (c : Nat) : ∃ vs, ∀ ty, (Builtin.clear_ #[24] ty #[.slice (some ⟨g, i * 2, none⟩) (ds.length - i) c]).run Try.prog w = .ok (.tuple #[]) (w.setCells g (i * 2) vs) := by
  have hl : (Builtin.zeroCells #[.int .i64 0, .int .i64 0] (ds.length - i)).toList.length = (ds.length - i) * 2 := by simp [Builtin.zeroCells]
  have ho : ∀ v ∈ (Builtin.zeroCells #[Value.int .i64 0, .int .i64 0] (ds.length - i)).toList, v.oneCell' = true := by
    intro v hv
    simp only [Builtin.zeroCells, Array.toList_map, List.mem_map] at hv
    obtain ⟨j, _, rfl⟩ := hv
    have : j % 2 = 0 ∨ j % 2 = 1 := by omega
    rcases this with e | e <;> simp [e, Value.oneCell']
  refine ⟨(Builtin.zeroCells #[Value.int .i64 0, .int .i64 0] (ds.length - i)).toList, fun ty => ?_⟩
  have key : ∀ j, j < (ds.length - i) * 2 → (w.cell? ⟨g, i * 2 + j, none⟩).isSome = true ∧ w.frozen? ⟨g, i * 2 + j, none⟩ = false := fun j hj => by
    have hk : i + j / 2 < ds.length := by omega
    obtain ⟨a, b, c, d⟩ := h.2 (i + j / 2) hk
    have : j % 2 = 0 ∨ j % 2 = 1 := by omega
    rcases this with e | e
    · rw [show i * 2 + j = (i + j / 2) * 2 by omega]
      exact ⟨by rw [a]; rfl, c⟩
    · rw [show i * 2 + j = (i + j / 2) * 2 + 1 by omega]
      exact ⟨by rw [b]; rfl, d⟩
  have hst := run_storeCells_cells (P := Try.prog) g (i * 2) (Builtin.zeroCells #[Value.int .i64 0, .int .i64 0] (ds.length - i)).toList 0 w (fun j hj => by rw [Nat.add_zero]; exact (key j (by rw [← hl]; exact hj)).1) (fun j hj => by rw [Nat.add_zero]; exact (key j (by rw [← hl]; exact hj)).2) ho
  simp only [Nat.add_zero] at hst
  obtain ⟨m, hm⟩ : ∃ m, ds.length - i = m + 1 := ⟨ds.length - i - 1, by omega⟩
  rw [hm] at hst ⊢
  simp [Builtin.clear_, run_underlying Try.underlying24, Value.cells, hst]
end Go.Proofs.Ytenfbjlmfdiniaa
