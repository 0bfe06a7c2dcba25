/- The walk of the document's Covers. -/
import Derived.Test.YtmnehekcealjhaaGreatSameRAll
import Derived.Test.YtmnehekcealjhaaGreatCoversAll
namespace Go.Proofs.YtmnehekcealjhaaGreat.O
open Go.RowKit

abbrev uO (u : U) : Obj := .cells #[.int .i64 u.1.1, .int .i64 u.1.2, .int .i64 u.2] 62
theorem OAt.newU (w : World) (k : Int) (pv : Value) (vk vn : Int) (vs : List UInt8) (n : Int) (sv : Value) (x : U) :
    OAt ((w.alloc (opO k pv vk vn vs n sv)).alloc (uO x)) w.heap.size k pv vk vn vs n sv ∧ CAt ((w.alloc (opO k pv vk vn vs n sv)).alloc (uO x)) ⟨w.heap.size + 1, 0, none⟩ x := by
  refine ⟨(OAt.new w k pv vk vn vs n sv).on (below_new _ _), ?_⟩
  have h := CAt.new (w.alloc (opO k pv vk vn vs n sv)) x
  have e : (w.alloc (opO k pv vk vn vs n sv)).heap.size = w.heap.size + 1 := by simp
  rw [e] at h
  exact h

def hasR (l : List U) (x : U) : Bool := decide (x ∈ l)
/-- None of so many is it. -/
def notTo (l : List U) (x : U) (k : Nat) : Prop := ¬ x ∈ l.take k
theorem notTo_zero (l : List U) (x : U) : notTo l x 0 := by simp [notTo]
theorem notTo_step {l : List U} {x : U} {k : Nat} (h : notTo l x k) (hk : k < l.length) (he : ¬ l[k] = x) : notTo l x (k + 1) := by
  unfold notTo at *
  rw [List.take_succ_eq_append_getElem hk, List.mem_append, List.mem_singleton]
  rintro (q | q)
  · exact h q
  · exact he q.symm
theorem notTo_end {l : List U} {x : U} {k : Nat} (h : notTo l x k) (hk : ¬ k < l.length) : hasR l x = false := by
  unfold notTo at h
  rw [List.take_of_length_le (by omega)] at h
  exact decide_eq_false h

set_option maxRecDepth 20000 in
set_option maxHeartbeats 4000000 in
theorem refCovers_any (k : Int) (pv : Value) (vk vn : Int) (vs : List UInt8) (n : Int) (sv : Value) (l : List U) (x : U) (w : World) (hll : l.length ≤ 1000000) (hs : refsIn w sv l) :
    Calls Tryz.prog 56 #[opV k pv vk vn vs n sv, uV x] w fun e w' => e = .returned (.bool (hasR l x)) ∧ Below w.heap.size w w' := by
  obtain ⟨bo, cs, rfl, _, _, hc⟩ := hs
  have HC : Hid (∀ k (h : k < l.length), ∃ ad, bo = some ad ∧ CAt w (ad.add (k * 3)) l[k]) := hc
  clear hc
  obtain ⟨m, hm⟩ : ∃ m, m = l.length := ⟨_, rfl⟩
  have HM : Hid (m = l.length) := hm
  rw [← hm] at hll ⊢
  clear hm
  have B0 := below_new2 w (opO k pv vk vn vs n (.slice bo m cs)) (uO x)
  have O0 := OAt.newU w k pv vk vn vs n (.slice bo m cs) x
  obtain ⟨W0, hW0⟩ : ∃ W0, W0 = ((w.alloc (opO k pv vk vn vs n (.slice bo m cs))).alloc (uO x)) := ⟨_, rfl⟩
  rw [← hW0] at B0 O0
  go_enter Tryz.func56, Tryz.ntmps56
  go_wp2
  rw [← hW0]
  clear hW0
  go_loopw [5] (fun i wr => ∃ j : Nat, j ≤ m ∧ i = .int .i64 j ∧ Hid (notTo l x j) ∧ Below W0.heap.size W0 wr) (fun i _ => m - (intOf i).toNat)
  case atStart => exact ⟨0, by omega, rfl, by have h := notTo_zero l x; exact h, Below.refl _ _⟩
  case round =>
    obtain ⟨j, hj, rfl, HS, hbw⟩ := hrel
    obtain ⟨c0, c1, c2, c3, c4, c5, c6⟩ := O0.1.on hbw
    obtain ⟨d0, d1, d2⟩ := O0.2.on hbw
    by_cases hlt : j < m
    · have hj1 : j < l.length := by have := HM.out; omega
      obtain ⟨ad, rfl, hA⟩ := HC.out j hj1
      obtain ⟨hA1, hA2, hA3⟩ := hA.on (bchain B0 hbw)
      have hi0 : (0 : Int) ≤ (j : Int) := by omega
      have hi1 : (j : Int) < (m : Int) := by omega
      clear hA
      have hE := eql_cnt l[j] x
      by_cases he : l[j] = x
      · have HL : Hid (hasR l x = true) := by
          have h : hasR l x = true := decide_eq_true (by rw [← he]; exact List.getElem_mem hj1)
          exact h
        simp only [he, decide_true] at hE
        rw [he] at hA1 hA2 hA3
        go_wp2
        go_region
        all_goals
          go_wp2
          go_ret
          exact ⟨ret_bool HL.out.symm, bchain B0 hbw.drew⟩
      · have HS' : Hid (notTo l x (j + 1)) := by have h := notTo_step HS.out hj1 he; exact h
        simp only [he, decide_false] at hE
        generalize l[j] = y at *
        clear HS
        go_wp2
        go_region
        all_goals
          go_wp2
          go_roundw
          case rel => exact ⟨j + 1, by omega, by go_num, HS', hbw.drew⟩
          case measure => simp [intOf]; omega
    · have HL : Hid (hasR l x = false) := by
        have h := notTo_end HS.out (by have := HM.out; omega)
        exact h
      go_wp2
      go_ret
      exact ⟨ret_bool HL.out.symm, bchain B0 hbw⟩

end Go.Proofs.YtmnehekcealjhaaGreat.O
