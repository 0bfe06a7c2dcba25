/- The walks of List of transactions that may be, both sides. -/
import Derived.Test.YtghkjbekjkejpaaGreatTxnCode
namespace Go.Proofs.YtghkjbekjkejpaaGreat.O
open Go.RowKit

/-- So many transactions' bytes, behind how many there are. -/
def lTo (l : List Tx.Txn) (k : Nat) : List UInt8 := Pk.enc l.length ++ (l.take k).flatMap Tx.code
theorem lTo_zero (l : List Tx.Txn) : lTo l 0 = Pk.enc l.length := by simp [lTo]
theorem lTo_step (l : List Tx.Txn) {k : Nat} (h : k < l.length) : lTo l (k + 1) = lTo l k ++ Tx.code l[k] := by unfold lTo; rw [flat_step Tx.code l h, List.append_assoc]
theorem lTo_all (l : List Tx.Txn) {k : Nat} (h : ¬ k < l.length) : lTo l k = Tx.list l := by unfold lTo Tx.list; rw [List.take_of_length_le (by omega)]
theorem lTo_len {l : List Tx.Txn} (h : ∀ t ∈ l, Tx.check t = 0) (hn : l.length ≤ 30) (k : Nat) : (lTo l k).length ≤ 13000000 := by
  have e1 := Pk.enc_len9 (n := l.length) (by omega)
  have e2 := flat_take_len (l := l) (f := Tx.code) (B := 400000) (fun t ht => tcode_len (h t ht)) k
  have e3 : l.length * 400000 ≤ 30 * 400000 := Nat.mul_le_mul_right _ hn
  unfold lTo
  rw [List.length_append]
  omega

set_option maxRecDepth 20000 in
set_option maxHeartbeats 4000000 in
theorem tlist_any (v : Value) (l : List Tx.Txn) (w : World) (hv : txsIn w v l) (hn : l.length ≤ 30) (hc : ∀ t ∈ l, Tx.check t = 0) :
    Calls Tryz.prog 7 #[v] w fun e w' => e = .returned (.string ⟨(Tx.list l).toArray⟩) ∧ Below w.heap.size w w' := by
  obtain ⟨W0, hW0⟩ : ∃ W0, W0 = w.alloc (.cells #[.pointer none, .slice none 0 0] 53) := ⟨_, rfl⟩
  have hI : Lib.IsBuilderF 53 5 w.heap.size w.heap.size (Lib.byteCells []) W0 := by
    rw [hW0]
    have := Lib.IsBuilderF.of (Lib.fresh_isBuilder 53 5 w)
    simpa [Lib.byteCells] using this
  have hB0 : Below w.heap.size w W0 := by rw [hW0]; exact below_new _ _
  have HW : Hid (W0 = w.alloc (.cells #[.pointer none, .slice none 0 0] 53)) := hW0
  obtain ⟨n, hn0⟩ : ∃ n, n = l.length := ⟨_, rfl⟩
  have HN : Hid (n = l.length) := hn0
  have hE := Pk.enc_len9 (n := n) (by omega)
  have HLen : Hid (∀ k, (lTo l k).length ≤ 13000000) := by have h := lTo_len hc hn; exact h
  have HG : Hid (∀ t ∈ l, Tx.check t = 0) := hc
  have HDs : Hid (txsIn w v l) := hv
  obtain ⟨ao, ca, rfl, _, _, _⟩ := hv
  have HC : ∀ w1, Calls Tryz.prog 25 #[.int .i64 (n : Int)] w1 fun e w2 => e = .returned (.string ⟨(Pk.enc n).toArray⟩) ∧ Below w1.heap.size w1 w2 := fun w1 => by
    have := int_any (n : Int) w1 (by omega) (by omega)
    rwa [Int.toNat_natCast] at this
  have HF : Hid (lTo l n = Tx.list l) := by have h := lTo_all l (k := n) (by omega); exact h
  have HL0 : Hid ((Lib.byteCells []).length + (⟨(Pk.enc n).toArray⟩ : ByteArray).size ≤ 140737488355328) := by
    have h := str_room (s := []) (q := Pk.enc n) (by simp; omega)
    exact h
  have HX0 : Hid (Lib.byteCells [] ++ Lib.strCells ⟨(Pk.enc n).toArray⟩ = Lib.byteCells (lTo l 0)) := by
    have h : Lib.byteCells [] ++ Lib.strCells ⟨(Pk.enc n).toArray⟩ = Lib.byteCells (lTo l 0) := by rw [str_append, lTo_zero, hn0]; rfl
    exact h
  have HI : Hid (Lib.IsBuilderF 53 5 w.heap.size w.heap.size (Lib.byteCells []) W0) := hI
  have HB0 : Hid (Below w.heap.size w W0) := hB0
  rw [← hn0] at HDs hn ⊢
  clear hc hW0 hI hB0 hn0 hE
  generalize Pk.enc n = pre at *
  go_enter Tryz.func7, Tryz.ntmps7
  go_wp2_with (first
    | (go_at_call 25; refine (HC _).mono ?_; rintro e w1 ⟨rfl, hb1⟩; rw [← HW.out] at hb1; have hI1 := builder_below HI.out hb1; have hB1 := bchain HB0.out hb1; have hs1 := hB1.size)
    | (go_at_call 24; refine (U.writeString_any w.heap.size w.heap.size _ _ _ hI1 HL0.out (by omega)).mono ?_; rintro e w2 ⟨rfl, hL2, hb2, _⟩))
  rw [HX0.out] at hL2
  have HB2 := hB1.trans hb2
  clear HC hI1 hb1 hb2 hB1 hs1
  go_loopw [5, 12] (fun _ i wr => ∃ k : Nat, k ≤ n ∧ i = .int .i64 k ∧ Lib.IsBuilderF 53 5 w.heap.size w.heap.size (Lib.byteCells (lTo l k)) wr ∧ Below w.heap.size w wr) (fun _ i _ => n - (intOf i).toNat)
  case atStart => exact ⟨0, by omega, rfl, hL2, HB2⟩
  case round =>
    clear hL2 HB2
    obtain ⟨k, hk, rfl, hI, hB⟩ := hrel
    by_cases hlt : k < n
    · have hkx : k < l.length := by have := HN.out; omega
      obtain ⟨ad, ov, rfl, hA, ho⟩ := (HDs.out.on hB).get hkx
      obtain ⟨oa, oc, rfl⟩ := ho.slice
      obtain ⟨a0, a1, a2, a3, a4, a5⟩ := hA
      have hok := HG.out _ (List.getElem_mem hkx)
      have hst := lTo_step l hkx
      have hl0 := HLen.out k
      have hl1 := HLen.out (k + 1)
      generalize hon : l[k].ops.length = on at *
      have Co := fun W hb => tcode_any l[k] (.slice oa on oc) W hok (ho.on hb)
      have HX : Hid (Lib.byteCells (lTo l k) ++ Lib.strCells ⟨(Tx.code l[k]).toArray⟩ = Lib.byteCells (lTo l (k + 1))) := by
        have h : Lib.byteCells (lTo l k) ++ Lib.strCells ⟨(Tx.code l[k]).toArray⟩ = Lib.byteCells (lTo l (k + 1)) := by rw [hst, str_append]
        exact h
      have HR1 : Hid ((Lib.byteCells (lTo l k)).length + (⟨(Tx.code l[k]).toArray⟩ : ByteArray).size ≤ 140737488355328) := by
        rw [hst, List.length_append] at hl1
        have h := str_room (s := lTo l k) (q := Tx.code l[k]) (by omega)
        exact h
      clear hst hl0 hl1 hok ho hon
      generalize Tx.code l[k] = q1 at *
      generalize l[k] = d at *
      have hs1 := hB.size
      have hk0 : (0 : Int) ≤ (k : Int) := by omega
      have hk1 : (k : Int) < (n : Int) := by omega
      have b0 := below_new wr (txO d (.slice oa on oc))
      have hI0 := builder_below hI b0
      have hB0 := bchain hB b0
      go_wp2_with fail
      refine (Co _ b0).mono ?_
      rintro e w1 ⟨rfl, hb1⟩
      have hI1 := builder_below hI0 hb1
      have hB1 := bchain hB0 hb1
      have hs2 := hB1.size
      go_wp2_with fail
      refine (U.writeString_any w.heap.size w.heap.size _ _ _ hI1 HR1.out (by omega)).mono ?_
      rintro e w2 ⟨rfl, hI2, hb2, _⟩
      rw [HX.out] at hI2
      go_wp2
      go_roundw
      case rel => exact ⟨k + 1, by omega, by go_num, hI2, hB1.trans hb2⟩
      case measure => simp [intOf]; omega
    · obtain rfl : k = n := by omega
      have hs1 := hB.size
      rw [HF.out] at hI
      go_wp2_with (go_at_call 26; refine (bString w.heap.size w.heap.size _ _ hI (by omega)).mono ?_; rintro e w1 ⟨rfl, _, hb, _⟩)
      go_ret
      exact ⟨rfl, hB.trans hb⟩

set_option maxRecDepth 20000 in
set_option maxHeartbeats 4000000 in
theorem refTlist_any (v : Value) (l : List Tx.Txn) (w : World) (hv : txsIn w v l) (hn : l.length ≤ 30) (hc : ∀ t ∈ l, Tx.check t = 0) :
    Calls Tryz.prog 8 #[v] w fun e w' => e = .returned (.string ⟨(Tx.list l).toArray⟩) ∧ Below w.heap.size w w' := by
  obtain ⟨n, hn0⟩ : ∃ n, n = l.length := ⟨_, rfl⟩
  have HN : Hid (n = l.length) := hn0
  have HLen : Hid (∀ k, (lTo l k).length ≤ 13000000) := by have h := lTo_len hc hn; exact h
  have HG : Hid (∀ t ∈ l, Tx.check t = 0) := hc
  have HDs : Hid (txsIn w v l) := hv
  obtain ⟨ao, ca, rfl, _, _, _⟩ := hv
  have HC : ∀ w1, Calls Tryz.prog 27 #[.int .i64 (n : Int)] w1 fun e w2 => e = .returned (.string ⟨(Pk.enc n).toArray⟩) ∧ Below w1.heap.size w1 w2 := fun w1 => by
    have := refInt_any (n : Int) w1 (by omega) (by omega)
    rwa [Int.toNat_natCast] at this
  have HF : Hid (lTo l n = Tx.list l) := by have h := lTo_all l (k := n) (by omega); exact h
  have HX0 : Hid (Pk.enc n = lTo l 0) := by have h : Pk.enc n = lTo l 0 := by rw [lTo_zero, hn0]
                                            exact h
  rw [← hn0] at HDs hn ⊢
  clear hc hn0
  generalize Pk.enc n = pre at *
  go_enter Tryz.func8, Tryz.ntmps8
  go_wp2_with (go_at_call 27; refine (HC _).mono ?_; rintro e w1 ⟨rfl, hb1⟩)
  clear HC
  go_loopw [3, 4] (fun s i wr => ∃ k : Nat, k ≤ n ∧ i = .int .i64 k ∧ s = .string ⟨(lTo l k).toArray⟩ ∧ Below w.heap.size w wr) (fun _ i _ => n - (intOf i).toNat)
  case atStart => exact ⟨0, by omega, rfl, by rw [← HX0.out], hb1⟩
  case round =>
    clear hb1
    obtain ⟨k, hk, rfl, rfl, hB⟩ := hrel
    by_cases hlt : k < n
    · have hkx : k < l.length := by have := HN.out; omega
      obtain ⟨ad, ov, rfl, hA, ho⟩ := (HDs.out.on hB).get hkx
      obtain ⟨a0, a1, a2, a3, a4, a5⟩ := hA
      have hok := HG.out _ (List.getElem_mem hkx)
      have hst := lTo_step l hkx
      have hl1 := HLen.out (k + 1)
      have Co := refTcode_any l[k] ov wr hok ho
      have HX : Hid (lTo l (k + 1) = lTo l k ++ Tx.code l[k]) := hst
      rw [hst, List.length_append] at hl1
      have hadd : ¬ 9223372036854775807 < (lTo l k).length + (Tx.code l[k]).length := by omega
      clear hst hl1 hok ho
      generalize lTo l k = s at *
      generalize Tx.code l[k] = q1 at *
      generalize l[k] = d at *
      have hk0 : (0 : Int) ≤ (k : Int) := by omega
      have hk1 : (k : Int) < (n : Int) := by omega
      go_wp2_with (go_at_call 28; refine Co.mono ?_; rintro e w2 ⟨rfl, hb2⟩)
      go_roundw
      case rel => exact ⟨k + 1, by omega, by go_num, by rw [HX.out]; simp only [cat_lists], bchain hB hb2⟩
      case measure => simp [intOf]; omega
    · obtain rfl : k = n := by omega
      rw [HF.out]
      go_wp2
      go_ret
      exact ⟨rfl, hB⟩
end Go.Proofs.YtghkjbekjkejpaaGreat.O
