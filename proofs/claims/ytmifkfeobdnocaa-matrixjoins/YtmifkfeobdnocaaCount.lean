/- The walks of 'Count' and 'Code', the program's and the document's. -/
import Derived.Test.YtmifkfeobdnocaaRef
namespace Go.Proofs.Ytmifkfeobdnocaa
open Go.RowKit

set_option maxRecDepth 20000 in
set_option maxHeartbeats 1000000 in
theorem count_vec (l : List Int) (hl : l.length = 16) (hr : Vc.right l = true) (w : World) : Calls Try.prog 28 #[vecV l] w fun e w' => e = .returned (.int .i64 (Vc.count l 16)) ∧ Below w.heap.size w w' := by
  have h0 := VecAt.new w l
  have hB : Hid (Below w.heap.size w (w.alloc (.cells (ints l).toArray 23))) := below_new w (.cells (ints l).toArray 23)
  go_enter Try.func28, Try.ntmps28
  go_wp2_with (refine load_vec rfl _ rfl w.heap.size l hl rfl h0 ?_)
  generalize w.alloc (.cells (ints l).toArray 23) = W at *
  clear h0
  go_loop [3, 7] (fun s i => ∃ k : Nat, k ≤ 16 ∧ i = .int .i64 k ∧ s = .int .i64 (Vc.count l k)) (fun _ i => 16 - (intOf i).toNat)
  case atStart => exact ⟨0, by omega, rfl, rfl⟩
  case round =>
    obtain ⟨k, hk, rfl, rfl⟩ := hrel
    by_cases hlt : k < 16
    · have hix := index_vec hl hlt
      have hb := Vc.count_bound hr k (by omega)
      have hx := Vc.right_iff.1 hr k (by omega)
      have hc : Vc.count l (k + 1) = Vc.count l k + l.getD k 0 := by rw [Vc.count]; omega
      generalize l.getD k 0 = x at *
      have HC : Hid (Vc.count l (k + 1) = Vc.count l k + x) := hc
      generalize Vc.count l k = s at *
      have hx0 : 0 ≤ x := hx.1
      have hs0 : 0 ≤ s := hb.1
      have hs1 : s ≤ 16777216 := by omega
      have hx1 : x ≤ 1048576 := hx.2
      clear hb hx hc hr hl
      have hmx : max x 0 = x := by omega
      go_wp2
      go_round
      case rel => exact ⟨k + 1, by omega, by go_num, by rw [HC.out]⟩
      case measure => first | (simp [intOf]; done) | (simp [intOf]; omega)
    · obtain rfl : k = 16 := by omega
      clear hr hl
      go_wp2
      go_ret
      exact ⟨rfl, hB.out⟩

/-- The numbers of a vector are Go's. -/
def Go64 (l : List Int) : Prop := ∀ k, -9223372036854775808 ≤ l.getD k 0 ∧ l.getD k 0 < 9223372036854775808

end Go.Proofs.Ytmifkfeobdnocaa
