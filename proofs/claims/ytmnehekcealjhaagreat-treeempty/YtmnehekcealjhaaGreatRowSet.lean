/- One thing of a row that a call owns is written: the row owns what it then holds; how a loop that lays a thing in its place by shifting stands. -/
import Derived.Test.YtmnehekcealjhaaGreatRowR
import Derived.Shelf.GgSortFunc.RowK
namespace Go.Proofs.YtmnehekcealjhaaGreat.O
open Go.RowKit

theorem heap_cell_same (w : World) (b o : Nat) (C : Array Value) (T : TypeId) (v : Value) (h : w.heap[b]? = some (.cells C T (0, 0))) : (w.setCell ⟨b, o, none⟩ v).heap[b]? = some (.cells (C.setIfInBounds o v) T (0, 0)) := by
  obtain ⟨hb, h'⟩ := Array.getElem?_eq_some_iff.1 h
  simp [World.setCell, Array.getElem?_modify, h]
theorem heap_cells_same (b : Nat) (T : TypeId) : ∀ (vs : List Value) (o : Nat) (w : World) (C : Array Value), w.heap[b]? = some (.cells C T (0, 0)) → (w.setCells b o vs).heap[b]? = some (.cells (Go.Sort.setMany C o vs) T (0, 0))
  | [], _, _, _, h => h
  | v :: r, o, w, C, h => by
    rw [World.setCells, Go.Sort.setMany]
    exact heap_cells_same b T r (o + 1) _ _ (heap_cell_same w b o C T v h)
section
variable {α : Type} {f : α → List Value} {m : Nat}
theorem own_setRow (hf : ∀ x, (f x).length = m) (hm : 0 < m) {w : World} {B g n cap : Nat} {T : TypeId} {xs : List α} (h : w.ownsRow B T m (.slice (some ⟨g, 0, none⟩) n cap) xs.length (xs.flatMap f)) {i : Nat} (hi : i < xs.length) (x : α) :
    (w.setCells g (i * m) (f x)).ownsRow B T m (.slice (some ⟨g, 0, none⟩) n cap) (xs.set i x).length ((xs.set i x).flatMap f) := by
  have hl2 : (xs.set i x).length = xs.length := by simp
  refine ⟨flat_length hf _, ?_⟩
  rcases h.2 with ⟨e, _⟩ | ⟨g', cap', cur, e, hbg, hg, r1, r2, r3, r4⟩
  · cases e
  · cases e
    refine .inr ⟨g, cap, Go.Sort.setMany cur (i * m) (f x), by rw [hl2], hbg, heap_cells_same g T (f x) (i * m) w cur hg, by rw [hl2]; exact r1, r2, by rw [Go.Sort.size_setMany]; exact r3, ?_⟩
    rw [hl2]
    have hin : i * m + m ≤ xs.length * m := by
      have := Nat.mul_le_mul_right m hi
      rw [Nat.succ_mul] at this
      exact this
    have hcs : xs.length * m ≤ cur.size := by rw [r3]; exact Nat.mul_le_mul_right m r1
    apply List.ext_getElem?
    intro t
    by_cases ht : t < xs.length * m
    · have htc : t < cur.size := by omega
      rw [List.getElem?_take_of_lt ht, Array.getElem?_toList]
      have e1 : (Go.Sort.setMany cur (i * m) (f x))[t]? = some (Go.Sort.setMany cur (i * m) (f x))[t]! := by
        rw [getElem!_pos _ t (by rw [Go.Sort.size_setMany]; exact htc), Array.getElem?_eq_getElem (by rw [Go.Sort.size_setMany]; exact htc)]
      rw [e1, Go.Sort.get_setMany _ _ _ t htc, hf]
      have hd := Nat.div_add_mod t m
      have hk : t / m < xs.length := (Nat.div_lt_iff_lt_mul hm).2 ht
      have hr : t % m < m := Nat.mod_lt _ hm
      have ht2 : t = t / m * m + t % m := by rw [Nat.mul_comm]; exact hd.symm
      have hfl := flat_at hf (xs.set i x) (t / m) (by rw [hl2]; exact hk) (t % m) hr
      rw [← ht2] at hfl
      rw [hfl]
      by_cases hti : t / m = i
      · have hti' : i * m ≤ t ∧ t < i * m + m := (Go.Sort.blk_iff m i t hm).2 hti
        rw [if_pos hti']
        have e2 : t - i * m = t % m := by rw [← hti]; omega
        rw [e2]
        have hl3 : t % m < (f x).length := by rw [hf]; exact hr
        rw [getElem!_pos (f x) (t % m) hl3]
        subst hti
        rw [List.getElem_set_self, List.getElem?_eq_getElem hl3]
      · rw [if_neg fun q => hti ((Go.Sort.blk_iff m i t hm).1 q), List.getElem_set_ne (Ne.symm hti)]
        have hfx := flat_at hf xs (t / m) hk (t % m) hr
        rw [← ht2, ← r4, List.getElem?_take_of_lt ht, Array.getElem?_toList] at hfx
        rw [← hfx, getElem!_pos _ t htc, Array.getElem?_eq_getElem htc]
    · rw [List.getElem?_eq_none (by rw [List.length_take]; omega), List.getElem?_eq_none (by rw [flat_length hf, hl2]; omega)]
/-- How a row stands that was written. -/
theorem own_cells {w : World} {B g n cap : Nat} {T : TypeId} {xs : List α} (hf : ∀ x, (f x).length = m) (h : w.ownsRow B T m (.slice (some ⟨g, 0, none⟩) n cap) xs.length (xs.flatMap f)) : OwnR w g f m xs ∧ xs.length ≤ cap ∧ cap ≤ maxLen ∧ B ≤ g ∧ n = xs.length := OwnR.of hf h
end
end Go.Proofs.YtmnehekcealjhaaGreat.O
