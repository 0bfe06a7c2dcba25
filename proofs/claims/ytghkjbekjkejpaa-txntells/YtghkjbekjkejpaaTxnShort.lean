/- The walk of the document's Short of a transaction. -/
import Derived.Test.YtghkjbekjkejpaaOpWrap
namespace Go.Proofs.Ytghkjbekjkejpaa.O
open Go.RowKit

/-- So many have it. -/
def allTo {α : Type} (f : α → Bool) (l : List α) (k : Nat) : Prop := ∀ x ∈ l.take k, f x = true
theorem allTo_zero {α : Type} (f : α → Bool) (l : List α) : allTo f l 0 := fun x h => by simp at h
theorem allTo_step {α : Type} {f : α → Bool} {l : List α} {k : Nat} (h : allTo f l k) (hk : k < l.length) (he : f l[k] = true) : allTo f l (k + 1) := by
  intro x hx
  rw [List.take_succ_eq_append_getElem hk, List.mem_append, List.mem_singleton] at hx
  rcases hx with hx | rfl
  · exact h x hx
  · exact he
theorem allTo_end {α : Type} {f : α → Bool} {l : List α} {k : Nat} (h : allTo f l k) (hk : ¬ k < l.length) : l.all f = true := by
  unfold allTo at h
  rw [List.take_of_length_le (by omega)] at h
  exact List.all_eq_true.2 h
theorem all_not {α : Type} {f : α → Bool} {l : List α} {k : Nat} (hk : k < l.length) (he : f l[k] = false) : l.all f = false := by
  cases e : l.all f with
  | false => rfl
  | true => rw [List.all_eq_true.1 e _ (List.getElem_mem hk)] at he; cases he

set_option maxRecDepth 20000 in
set_option maxHeartbeats 2000000 in
theorem tshort_any (t : Tx.Txn) (ov : Value) (w : World) (hw : txWide t) (ho : opsIn w ov t.ops) :
    Calls Try.prog 6 #[txV t ov] w fun e w' => e = .returned (.bool (tshort t)) ∧ Below w.heap.size w w' := by
  obtain ⟨ao, cap, rfl⟩ := ho.slice
  obtain ⟨m, hm⟩ : ∃ m, m = t.ops.length := ⟨_, rfl⟩
  have HM : Hid (m = t.ops.length) := hm
  rw [← hm] at ho ⊢
  have HO : Hid (opsIn w (.slice ao m cap) t.ops) := ho
  have HW : Hid (txWide t) := hw
  have B0 := below_new w (txO t (.slice ao m cap))
  have O0 := TAt.new w t (.slice ao m cap)
  obtain ⟨W0, hW0⟩ : ∃ W0, W0 = w.alloc (txO t (.slice ao m cap)) := ⟨_, rfl⟩
  clear ho hw
  by_cases h20 : m ≤ 20
  rotate_left
  · rw [show tshort t = false by unfold tshort; rw [decide_eq_false (by omega)]; rfl]
    have h20' : ¬ (m : Int) ≤ 20 := by omega
    have h20'' : (20 : Int) < (m : Int) := by omega
    clear hm hW0
    go_enter Try.func6, Try.ntmps6
    go_wp2
    go_ret
    exact ⟨rfl, B0⟩
  have h20' : (m : Int) ≤ 20 := by omega
  have h20'' : ¬ (20 : Int) < (m : Int) := by omega
  have HT : Hid (tshort t = t.ops.all Os.short) := by
    have h : tshort t = t.ops.all Os.short := by unfold tshort; rw [decide_eq_true (by omega)]; rfl
    exact h
  rw [HT.out]
  rw [← hW0] at B0 O0
  clear hm
  go_enter Try.func6, Try.ntmps6
  obtain ⟨c0, c1, c2, c3, c4, c5⟩ := id O0
  rw [hW0] at c0 c1 c2 c3 c4 c5
  go_wp2
  rw [← hW0]
  clear c0 c1 c2 c3 c4 c5 hW0
  go_loopw [3] (fun i wr => ∃ k : Nat, k ≤ m ∧ i = .int .i64 k ∧ Hid (allTo Os.short t.ops k) ∧ Below W0.heap.size W0 wr) (fun i _ => m - (intOf i).toNat)
  case atStart => exact ⟨0, by omega, rfl, by have h := allTo_zero Os.short t.ops; exact h, Below.refl _ _⟩
  case round =>
    obtain ⟨k, hk, rfl, HS, hbw⟩ := hrel
    obtain ⟨c0, c1, c2, c3, c4, c5⟩ := O0.on hbw
    by_cases hlt : k < m
    · have hkx : k < t.ops.length := by have := HM.out; omega
      obtain ⟨ad, pv, sv, rfl, hA, hp, hs⟩ := (HO.out.on (bchain B0 hbw)).get hkx
      obtain ⟨a0, a1, a2, a3, a4, a5, a6⟩ := hA
      have hwd := HW.out _ (List.getElem_mem hkx)
      have C := oshort _ pv sv wr hwd hp hs
      have hi0 : (0 : Int) ≤ (k : Int) := by omega
      have hi1 : (k : Int) < (m : Int) := by omega
      cases hq : Os.short t.ops[k] with
      | false =>
        have HL : Hid (t.ops.all Os.short = false) := by have h := all_not hkx hq; exact h
        rw [hq] at C
        clear hwd hq hp hs
        generalize t.ops[k] = x at *
        go_wp2_with (go_at_call 24; refine C.mono ?_; rintro e w1 ⟨rfl, hb1⟩)
        go_ret
        exact ⟨ret_bool HL.out.symm, bchain (bchain B0 hbw) hb1⟩
      | true =>
        have HS' : Hid (allTo Os.short t.ops (k + 1)) := by have h := allTo_step HS.out hkx hq; exact h
        rw [hq] at C
        clear hwd hq hp hs HS
        generalize t.ops[k] = x at *
        go_wp2_with (go_at_call 24; refine C.mono ?_; rintro e w1 ⟨rfl, hb1⟩)
        go_roundw
        case rel => exact ⟨k + 1, by omega, by go_num, HS', bchain hbw hb1⟩
        case measure => simp [intOf]; omega
    · have HL : Hid (t.ops.all Os.short = true) := by
        have h := allTo_end HS.out (by have := HM.out; omega)
        exact h
      go_wp2
      go_ret
      exact ⟨ret_bool HL.out.symm, bchain B0 hbw⟩
end Go.Proofs.Ytghkjbekjkejpaa.O
