/- The bytes of a transaction: lengths, and how they grow. -/
import Derived.Test.YtghkjbekjkejpaaOpWrap
import Derived.Test.YtghkjbekjkejpaaCodes2
import Derived.Test.YtghkjbekjkejpaaCodeOp
namespace Go.Proofs.Ytghkjbekjkejpaa.O
open Go.RowKit

/-! ### Lengths -/
theorem opcode_len {o : Os.Op} (h : Os.check o = 0 ∨ Os.gone o = true) : (Os.code o).length ≤ 20000 := by
  rcases h with h | h
  · obtain ⟨h1, h2, h3, h4, h5, h6, h7, h8⟩ := Os.check_zero h
    have e1 := Pk.enc_len9 (n := o.k.toNat) (by omega)
    have e2 := (path_few h3).code
    have hu := (Os.ups_iff.1 h8).1
    have e3 := lcode_len hu (by omega)
    have e4 : (if Os.hv o.k = true then Vl.code o.vk o.vn o.vs else []).length ≤ 200 := by
      split
      · rename_i hv
        refine vcode_len (Vl.right_iff.1 ?_)
        unfold Os.rv at h4
        rwa [if_pos hv] at h4
      · simp
    have e5 : (if Os.ha o.k = true then Pk.enc (Vl.fold o.n).toNat else []).length ≤ 9 := by
      split
      · rename_i ha
        unfold Os.ra at h5
        rw [if_pos ha] at h5
        have h9 := of_decide_eq_true h5
        have h10 := Vl.fold_le (n := o.n) (by omega) (by omega)
        have h11 := Vl.fold_pos o.n
        exact Pk.enc_len9 (by omega)
      · simp
    have e6 : (if Os.hs o.k = true then Os.lcode o.l else []).length ≤ 9000 := by
      split
      · exact e3
      · simp
    unfold Os.code Os.tail
    split
    · omega
    · simp only [List.length_append]
      omega
  · rw [Os.gone_is h]
    decide
theorem may_of {t : Tx.Txn} (h : Tx.check t = 0) : ∀ o ∈ t.ops, Os.check o = 0 ∨ Os.gone o = true := fun o ho => ((Tx.check_zero h).2.2.2.2 o ho).imp id (·.2)
theorem flat_len {α : Type} {f : α → List UInt8} {B : Nat} : ∀ {l : List α}, (∀ x ∈ l, (f x).length ≤ B) → (l.flatMap f).length ≤ l.length * B
  | [], _ => by simp
  | x :: l, h => by
    have h1 := flat_len (l := l) fun y hy => h y (by simp [hy])
    have h2 := h x (by simp)
    rw [List.flatMap_cons, List.length_append, List.length_cons, Nat.succ_mul]
    omega
theorem flat_take_len {α : Type} {f : α → List UInt8} {B : Nat} {l : List α} (h : ∀ x ∈ l, (f x).length ≤ B) (k : Nat) : ((l.take k).flatMap f).length ≤ l.length * B := by
  have h1 := flat_len (l := l.take k) fun y hy => h y (List.mem_of_mem_take hy)
  have h2 : (l.take k).length * B ≤ l.length * B := Nat.mul_le_mul_right _ (by rw [List.length_take]; omega)
  omega
theorem flat_step {α : Type} (f : α → List UInt8) (l : List α) {k : Nat} (h : k < l.length) : (l.take (k + 1)).flatMap f = (l.take k).flatMap f ++ f l[k] := by
  rw [List.take_succ_eq_append_getElem h, List.flatMap_append, List.flatMap_cons, List.flatMap_nil, List.append_nil]
/-- What is ahead of the operations. -/
def dcodeT (t : Tx.Txn) : List UInt8 := Pk.enc t.d.1.toNat ++ Pk.enc t.d.2.toNat
def thinN (t : Tx.Txn) : Nat := if t.thin = true then 1 else 0
theorem dcodeT_len {t : Tx.Txn} (h : Tx.check t = 0) : (dcodeT t).length ≤ 18 := by
  have h1 := (Dt.right_iff.1 (Tx.check_zero h).1)
  have e1 := Pk.enc_len9 (n := t.d.1.toNat) (by omega)
  have e2 := Pk.enc_len9 (n := t.d.2.toNat) (by omega)
  unfold dcodeT
  rw [List.length_append]
  omega
theorem head_eq (t : Tx.Txn) : Tx.head t = dcodeT t ++ Pk.enc t.u.toNat ++ Pk.enc t.t.toNat ++ Pk.enc (thinN t) ++ Pk.enc t.ops.length := by
  unfold Tx.head dcodeT thinN
  simp only [List.append_assoc]
theorem head_len {t : Tx.Txn} (h : Tx.check t = 0) : (Tx.head t).length ≤ 54 := by
  obtain ⟨h1, h2, h3, h4, h5⟩ := Tx.check_zero h
  have e1 := dcodeT_len h
  have e2 := Pk.enc_len9 (n := t.u.toNat) (by omega)
  have e3 := Pk.enc_len9 (n := t.t.toNat) (by omega)
  have e4 := Pk.enc_len9 (n := thinN t) (by unfold thinN; split <;> omega)
  have e5 := Pk.enc_len9 (n := t.ops.length) (by omega)
  rw [head_eq]
  simp only [List.length_append]
  omega
theorem tcode_len {t : Tx.Txn} (h : Tx.check t = 0) : (Tx.code t).length ≤ 400000 := by
  have e1 := head_len h
  have e2 := flat_len (l := t.ops) (f := Os.code) (B := 20000) fun o ho => opcode_len (may_of h o ho)
  have e3 : t.ops.length * 20000 ≤ 16 * 20000 := Nat.mul_le_mul_right _ (Tx.check_zero h).2.2.2.1.2
  unfold Tx.code
  rw [List.length_append]
  omega
/-- So many operations' bytes, behind the head. -/
def oTo (t : Tx.Txn) (k : Nat) : List UInt8 := Tx.head t ++ (t.ops.take k).flatMap Os.code
theorem oTo_zero (t : Tx.Txn) : oTo t 0 = Tx.head t := by simp [oTo]
theorem oTo_step (t : Tx.Txn) {k : Nat} (h : k < t.ops.length) : oTo t (k + 1) = oTo t k ++ Os.code t.ops[k] := by unfold oTo; rw [flat_step Os.code t.ops h, List.append_assoc]
theorem oTo_all (t : Tx.Txn) {k : Nat} (h : ¬ k < t.ops.length) : oTo t k = Tx.code t := by unfold oTo Tx.code; rw [List.take_of_length_le (by omega)]
theorem oTo_len {t : Tx.Txn} (h : Tx.check t = 0) (k : Nat) : (oTo t k).length ≤ 400000 := by
  have e1 := head_len h
  have e2 := flat_take_len (l := t.ops) (f := Os.code) (B := 20000) (fun o ho => opcode_len (may_of h o ho)) k
  have e3 : t.ops.length * 20000 ≤ 16 * 20000 := Nat.mul_le_mul_right _ (Tx.check_zero h).2.2.2.1.2
  unfold oTo
  rw [List.length_append]
  omega
theorem tdcode_any (t : Tx.Txn) (h : Tx.check t = 0) (w : World) : Calls Try.prog 39 #[dV t.d] w fun e w' => e = .returned (.string ⟨(dcodeT t).toArray⟩) ∧ Below w.heap.size w w' := by
  have h1 := (Dt.right_iff.1 (Tx.check_zero h).1)
  exact D.code_any t.d.1 t.d.2 w (by omega) (by omega) (by omega) (by omega)
theorem refTdcode_any (t : Tx.Txn) (h : Tx.check t = 0) (w : World) : Calls Try.prog 43 #[dV t.d] w fun e w' => e = .returned (.string ⟨(dcodeT t).toArray⟩) ∧ Below w.heap.size w w' := by
  have h1 := (Dt.right_iff.1 (Tx.check_zero h).1)
  exact D.refCode_any t.d.1 t.d.2 w (by omega) (by omega) (by omega) (by omega)
/-- The four numbers, and how many of their bytes are written. -/
def fourT (t : Tx.Txn) (i : Nat) : Int := match i with | 0 => t.u | 1 => t.t | 2 => (thinN t : Int) | _ => (t.ops.length : Int)
def hTo (t : Tx.Txn) (i : Nat) : List UInt8 := match i with
  | 0 => dcodeT t
  | 1 => dcodeT t ++ Pk.enc t.u.toNat
  | 2 => dcodeT t ++ Pk.enc t.u.toNat ++ Pk.enc t.t.toNat
  | 3 => dcodeT t ++ Pk.enc t.u.toNat ++ Pk.enc t.t.toNat ++ Pk.enc (thinN t)
  | _ => Tx.head t
theorem hTo_step (t : Tx.Txn) {i : Nat} (h : i < 4) : hTo t (i + 1) = hTo t i ++ Pk.enc (fourT t i).toNat := by
  match i, h with
  | 0, _ => rfl
  | 1, _ => rfl
  | 2, _ => simp [hTo, fourT]
  | 3, _ => simp [hTo, fourT, head_eq]
theorem fourT_fits {t : Tx.Txn} (h : Tx.check t = 0) (i : Nat) : 0 ≤ fourT t i ∧ fourT t i < 72057594037927936 := by
  obtain ⟨h1, h2, h3, h4, h5⟩ := Tx.check_zero h
  unfold fourT
  split
  · omega
  · omega
  · unfold thinN; split <;> omega
  · omega
theorem hTo_len {t : Tx.Txn} (h : Tx.check t = 0) (i : Nat) : (hTo t i).length ≤ 54 := by
  have e := head_len h
  rw [head_eq] at e
  simp only [List.length_append] at e
  unfold hTo
  split
  · omega
  · simp only [List.length_append]; omega
  · simp only [List.length_append]; omega
  · simp only [List.length_append]; omega
  · rw [head_eq]; simp only [List.length_append]; omega

end Go.Proofs.Ytghkjbekjkejpaa.O
