/- The walk of 'each' with name.Quote and with pack.Text: what a function answers to each part, in a row of its own. -/
import Derived.Test.YtghkjbekjkejpaaSplits
import Derived.Test.YtghkjbekjkejpaaUtfAll
import Derived.Test.YtghkjbekjkejpaaNumberAll
import Derived.OwnWalk
namespace Go.Proofs.Ytghkjbekjkejpaa.U
open Go.RowKit

/-- A row of one's own stands through a call. -/
theorem own_on {w w' : World} {B : Nat} {e : TypeId} {v : Value} {n : Nat} {xs : List Value} (h : w.ownsRow B e 1 v n xs) (hb : Below w.heap.size w w') : w'.ownsRow B e 1 v n xs := by
  refine ⟨h.1, ?_⟩
  rcases h.2 with h0 | ⟨g, cap, cur, h1, h2, h3, h4⟩
  · exact Or.inl h0
  · exact Or.inr ⟨g, cap, cur, h1, h2, (hb.block g (heap_lt h3)).trans h3, h4⟩
theorem text_list (l : List UInt8) (w : World) (hl : l.length ≤ 1000000) : Calls Try.prog 85 #[.string ⟨l.toArray⟩] w fun e w' => e = .returned (.string ⟨(Pt.textL l).toArray⟩) ∧ Below w.heap.size w w' :=
  text_any ⟨l.toArray⟩ w (by simp [ByteArray.size]; exact hl)
theorem map_take_succ (f : List UInt8 → List UInt8) {xs : List (List UInt8)} {k : Nat} (h : k < xs.length) : (xs.map f).take (k + 1) = (xs.map f).take k ++ [f xs[k]] := by
  rw [List.take_succ_eq_append_getElem (by rw [List.length_map]; exact h), List.getElem_map]

set_option maxRecDepth 20000 in
set_option maxHeartbeats 2000000 in
theorem each_text (v : Value) (xs : List (List UInt8)) (w : World) (hx : xs.length ≤ 1000) (hz : ∀ x ∈ xs, x.length ≤ 1000000) (hv : strsAt w v xs) :
    Calls Try.prog 84 #[v, .func (.func 85) #[] #[]] w fun e w' => ∃ u, e = .returned u ∧ w'.ownsRow w.heap.size 9 1 u xs.length (cellsS (xs.map Pt.textL)) ∧ Below w.heap.size w w' := by
  obtain ⟨i0, hi, hz0, hz1, hz2⟩ := info_parts info9
  obtain ⟨ao, ca, rfl, _, hc⟩ := hv
  go_enter Try.func84, Try.ntmps84
  go_wp2_with (refine wpList_make_own _ rfl _ _ 42 rfl w.heap.size 9 i0 (.string ⟨#[]⟩) 1 Try.underlying42 hi hz0 hz1 _ _ _ xs.length rfl rfl rfl (by rw [hz2]; omega) (by unfold maxLen; omega) (Nat.le_refl _) ?_)
  intro w0 hown0 hg0
  have hb0 : Below w.heap.size w w0 := (Below.refl _ w).grown hg0 (Nat.le_refl _) (fun k hk => by cases hk)
  generalize Value.slice (some ⟨w.heap.size, 0, none⟩) 0 xs.length = v0 at *
  go_wp2
  go_loopw [5, 13] (fun u i wr => ∃ k : Nat, k ≤ xs.length ∧ i = .int .i64 k ∧ wr.ownsRow w.heap.size 9 1 u k (cellsS ((xs.map Pt.textL).take k)) ∧ Below w.heap.size w wr) (fun _ i _ => xs.length - (intOf i).toNat)
  case atStart => exact ⟨0, by omega, rfl, hown0, hb0⟩
  case round =>
    obtain ⟨k, hk, rfl, hown, hbw⟩ := hrel
    by_cases hlt : k < xs.length
    · obtain ⟨ad, rfl, hA⟩ := hc k hlt
      have hA2 : wr.cell? (ad.add k) = some (.string ⟨(xs[k]).toArray⟩) := (hbw.cell (World.block_lt_of_cell? _ _ hA)).trans hA
      have HT : Hid ((xs.map Pt.textL).take (k + 1) = (xs.map Pt.textL).take k ++ [Pt.textL xs[k]]) := map_take_succ _ hlt
      have HC := fun W => text_list xs[k] W (Nat.le_trans (hz _ (List.getElem_mem hlt)) (by omega))
      clear hc hA hz
      generalize Pt.textL xs[k] = y at *
      generalize xs[k] = x at *
      go_wp2_with (go_at_call 85; refine (HC _).mono ?_)
      rintro e w1 ⟨rfl, hb1⟩
      have hown1 := own_on hown hb1
      have hs1 : w.heap.size ≤ w1.heap.size := Nat.le_trans hbw.size hb1.size
      have hbw1 : Below w.heap.size w w1 := hbw.trans (hb1.mono hbw.size)
      go_wp2_with (at_builtin; refine wpList_append_own _ rfl _ _ 42 rfl w.heap.size 9 i0 (.string ⟨#[]⟩) 1 16 Try.underlying42 hi hz0 hz1 hz2 rfl (by decide) _ _ _ rfl (hown1.alloc _) ⟨_, 0, none⟩ 1 1 [.string ⟨y.toArray⟩] rfl rfl (one_new5 _ _ _) (one_cellS _) ?c3 ?c4 ?c5 ?_)
      case c3 => unfold maxLen; omega
      case c4 => omega
      case c5 => simp; omega
      intro v' w2 hown' hgrow _
      have R1 := own_below hown1 hs1 hbw1 hgrow
      rw [cellsS_snoc, ← HT.out] at hown'
      clear hgrow hown hown1
      go_wp2
      go_roundw
      case rel => exact ⟨k + 1, by omega, by go_num, hown', R1⟩
      case measure => simp [intOf]; omega
    · obtain rfl : k = xs.length := by omega
      rw [List.take_of_length_le (by rw [List.length_map]; exact Nat.le_refl _)] at hown
      clear hc hz
      go_wp2
      go_ret
      exact ⟨_, rfl, hown, hbw⟩

end Go.Proofs.Ytghkjbekjkejpaa.U
