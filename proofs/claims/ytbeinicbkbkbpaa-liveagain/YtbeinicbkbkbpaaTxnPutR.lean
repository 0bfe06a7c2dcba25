/- The walks of the document's Find and Put of transactions, and of 'short' of the statements. -/
import Derived.Test.YtbeinicbkbkbpaaTxnCatAll
import Derived.Test.YtbeinicbkbkbpaaOpWrapAll
namespace Go.Proofs.Ytbeinicbkbkbpaa.O
open Go.RowKit

/-- None of so many has the dot. -/
def noTo (l : List Tx.Txn) (d : D) (k : Nat) : Prop := ∀ j (h : j < l.length), j < k → l[j].d ≠ d
theorem noTo_zero (l : List Tx.Txn) (d : D) : noTo l d 0 := fun _ _ h => absurd h (Nat.not_lt_zero _)
theorem noTo_step {l : List Tx.Txn} {d : D} {k : Nat} (h : noTo l d k) (hk : k < l.length) (he : l[k].d ≠ d) : noTo l d (k + 1) := fun j hj hjk => by
  by_cases e : j = k
  · subst e; exact he
  · exact h j hj (by omega)
theorem noTo_end {l : List Tx.Txn} {d : D} {k : Nat} (h : noTo l d k) (hk : ¬ k < l.length) : Tx.find l d = -1 := Tx.find_none fun x hx => by
  obtain ⟨j, hj, rfl⟩ := List.mem_iff_getElem.1 hx
  exact h j hj (by omega)
theorem noTo_hit {l : List Tx.Txn} {d : D} {k : Nat} (h : noTo l d k) (hk : k < l.length) (he : l[k].d = d) : Tx.find l d = (k : Int) := by
  have := Tx.findFrom_at (k := 0) hk he fun j hj hjk => h j hj hjk
  rw [Nat.zero_add] at this
  exact this

set_option maxRecDepth 20000 in
set_option maxHeartbeats 2000000 in
theorem refTfind_any (v : Value) (l : List Tx.Txn) (d : D) (w : World) (hv : txsIn w v l) (hn : l.length ≤ 1000000) :
    Calls Try.prog 25 #[v, dV d] w fun e w' => e = .returned (.int .i64 (Tx.find l d)) ∧ Below w.heap.size w w' := by
  have HV : Hid (txsIn w v l) := hv
  obtain ⟨ao, cap, rfl, -⟩ := hv
  obtain ⟨m, hm⟩ : ∃ m, m = l.length := ⟨_, rfl⟩
  have HM : Hid (m = l.length) := hm
  rw [← hm] at HV hn ⊢
  clear hm
  have B0 := below_new w (.cells #[.int .i64 d.1, .int .i64 d.2] 44)
  have D0 := DAt.new w d
  obtain ⟨W0, hW0⟩ : ∃ W0, W0 = w.alloc (.cells #[.int .i64 d.1, .int .i64 d.2] 44) := ⟨_, rfl⟩
  rw [← hW0] at B0 D0
  go_enter Try.func25, Try.ntmps25
  go_wp2
  rw [← hW0]
  clear hW0
  go_loopw [5] (fun i wr => ∃ k : Nat, k ≤ m ∧ i = .int .i64 k ∧ Hid (noTo l d k) ∧ Below W0.heap.size W0 wr) (fun i _ => m - (intOf i).toNat)
  case atStart => exact ⟨0, by omega, rfl, by have h := noTo_zero l d; exact h, Below.refl _ _⟩
  case round =>
    obtain ⟨k, hk, rfl, HS, hbw⟩ := hrel
    obtain ⟨d0, d1⟩ := D0.on hbw
    by_cases hlt : k < m
    · have hkx : k < l.length := by have := HM.out; omega
      obtain ⟨ad, ov, rfl, hA, -⟩ := (HV.out.on (bchain B0 hbw)).get hkx
      obtain ⟨a0, a1, -, -, -, -⟩ := hA
      have hi0 : (0 : Int) ≤ (k : Int) := by omega
      have hi1 : (k : Int) < (m : Int) := by omega
      have hE := eql_dot l[k].d d
      by_cases he : l[k].d = d
      · have HL : Hid (Tx.find l d = (k : Int)) := by have h := noTo_hit HS.out hkx he; exact h
        simp only [he, decide_true] at hE
        rw [he] at a0 a1
        clear HS he
        go_wp2
        go_region
        all_goals
          go_wp2
          go_ret
          exact ⟨ret_int HL.out.symm, (bchain B0 hbw).drew⟩
      · have HS' : Hid (noTo l d (k + 1)) := by have h := noTo_step HS.out hkx he; exact h
        simp only [he, decide_false] at hE
        clear HS he
        generalize l[k] = x at *
        go_wp2
        go_region
        all_goals
          go_wp2
          go_roundw
          case rel => exact ⟨k + 1, by omega, by go_num, HS', hbw.drew⟩
          case measure => simp [intOf]; omega
    · have HL : Hid (Tx.find l d = -1) := by
        have h := noTo_end HS.out (by have := HM.out; omega)
        exact h
      go_wp2
      go_ret
      exact ⟨ret_int HL.out.symm, bchain B0 hbw⟩

/-! ### One put in its place, as the document goes -/
open Classical in
noncomputable def fin (T : TE) : Bool → List TE → List TE
  | b, [] => if b = true then [] else [T]
  | b, x :: r => if b = false ∧ Tx.dlt T.1.d x.1.d then T :: x :: fin T true r else x :: fin T b r
theorem fin_true (T : TE) : ∀ r, fin T true r = r
  | [] => by simp [fin]
  | x :: r => by rw [fin, if_neg (by simp), fin_true T r]
theorem fin_here {T x : TE} {r : List TE} (h : Tx.dlt T.1.d x.1.d) : fin T false (x :: r) = T :: x :: fin T true r := by rw [fin, if_pos ⟨rfl, h⟩]
theorem fin_on {T x : TE} {b : Bool} {r : List TE} (h : ¬ (b = false ∧ Tx.dlt T.1.d x.1.d)) : fin T b (x :: r) = x :: fin T b r := by rw [fin, if_neg h]
theorem fin_put (T : TE) : ∀ (r : List TE), (∀ x ∈ r, x.1.d ≠ T.1.d) → (fin T false r).map (·.1) = Tx.put (r.map (·.1)) T.1
  | [], _ => by simp [fin, Tx.put]
  | x :: r, h => by
    have h1 := h x (by simp)
    simp only [List.map_cons, Tx.put]
    rw [if_neg (fun e => h1 e.symm)]
    by_cases hd : Tx.dlt T.1.d x.1.d
    · rw [fin_here hd, fin_true, if_pos hd]
      rfl
    · rw [fin_on (fun q => hd q.2), if_neg hd, List.map_cons, fin_put T r fun y hy => h y (by simp [hy])]

end Go.Proofs.Ytbeinicbkbkbpaa.O
