/- The bytes of dots, and of lists of dots: the walks of Code and List, the program's and the document's. -/
import Derived.Test.YtenfbjlmfdiniaaRow
namespace Go.Proofs.Ytenfbjlmfdiniaa
open Go.RowKit

/-- A dot's bytes. -/
def dcode (d : D) : List UInt8 := Pk.enc d.1.toNat ++ Pk.enc d.2.toNat
/-- Dots' bytes, one behind the other. -/
def dcodes (ds : List D) : List UInt8 := ds.flatMap dcode
/-- A list's bytes, so many dots of it. -/
def lcodeTo (ds : List D) (k : Nat) : List UInt8 := Pk.enc ds.length ++ dcodes (ds.take k)
def lcode (ds : List D) : List UInt8 := Pk.enc ds.length ++ dcodes ds
/-- The numbers of dots are Go's. -/
def GoD (ds : List D) : Prop := ∀ d ∈ ds, (-9223372036854775808 ≤ d.1 ∧ d.1 < 9223372036854775808) ∧ (-9223372036854775808 ≤ d.2 ∧ d.2 < 9223372036854775808)
theorem dcodes_cons (d : D) (ds : List D) : dcodes (d :: ds) = dcode d ++ dcodes ds := rfl
theorem dcodes_append (a b : List D) : dcodes (a ++ b) = dcodes a ++ dcodes b := by simp [dcodes]
theorem dcode_len {ds : List D} (h : GoD ds) {d : D} (hd : d ∈ ds) : (dcode d).length ≤ 18 := by
  have := h d hd
  have h1 := Pk.enc_len9 (n := d.1.toNat) (by omega)
  have h2 := Pk.enc_len9 (n := d.2.toNat) (by omega)
  rw [dcode, List.length_append]
  omega
theorem dcodes_len : ∀ {ds : List D}, GoD ds → (dcodes ds).length ≤ 18 * ds.length
  | [], _ => by simp [dcodes]
  | d :: ds, h => by
    have h1 := dcode_len h (List.mem_cons_self)
    have h2 := dcodes_len (ds := ds) fun x hx => h x (List.mem_cons_of_mem _ hx)
    rw [dcodes_cons, List.length_append, List.length_cons]
    omega
theorem lcodeTo_zero (ds : List D) : lcodeTo ds 0 = Pk.enc ds.length := by simp [lcodeTo, dcodes]
theorem lcodeTo_step (ds : List D) (k : Nat) (h : k < ds.length) : lcodeTo ds (k + 1) = lcodeTo ds k ++ dcode ds[k] := by
  unfold lcodeTo
  rw [List.take_succ_eq_append_getElem h, dcodes_append, List.append_assoc]
  simp [dcodes]
theorem lcodeTo_all (ds : List D) : lcodeTo ds ds.length = lcode ds := by simp [lcodeTo, lcode]
theorem lcodeTo_len {ds : List D} (h : GoD ds) (hn : ds.length ≤ 1000000) (k : Nat) : (lcodeTo ds k).length ≤ 100000000 := by
  have h0 := Pk.enc_len9 (n := ds.length) (by omega)
  have h1 := dcodes_len (ds := ds.take k) fun x hx => h x (List.mem_of_mem_take hx)
  have h2 : (ds.take k).length ≤ ds.length := by simp; omega
  rw [lcodeTo, List.length_append]
  omega

set_option maxRecDepth 20000 in
theorem dotCode_any (d : D) (w : World) (hd : GoD [d]) :
    Calls Try.prog 66 #[dV d] w fun e w' => e = .returned (.string ⟨(dcode d).toArray⟩) ∧ Below w.heap.size w w' := by
  obtain ⟨⟨h0, h1⟩, h2, h3⟩ := hd d (by simp)
  obtain ⟨r, n⟩ := d
  simp only at h0 h1 h2 h3
  have lr := Pk.enc_len9 (n := r.toNat) (by omega)
  have ln := Pk.enc_len9 (n := n.toNat) (by omega)
  have hs1 : ¬ 9223372036854775807 < (Pk.enc r.toNat).length + (Pk.enc n.toNat).length := by omega
  have HR : ∀ w, Calls Try.prog 65 #[.int .i64 r] w fun e w' => e = .returned (.string ⟨(Pk.enc r.toNat).toArray⟩) ∧ Below w.heap.size w w' := fun w => int_any r w h0 h1
  have HN : ∀ w, Calls Try.prog 65 #[.int .i64 n] w fun e w' => e = .returned (.string ⟨(Pk.enc n.toNat).toArray⟩) ∧ Below w.heap.size w w' := fun w => int_any n w h2 h3
  clear h0 h1 h2 h3 hd
  go_enter Try.func66, Try.ntmps66
  go_wp2_with fail
  go_region_held3 (fun w' => w'.cell? ⟨w.heap.size, 0, none⟩ = some (.int .i64 r) ∧ w'.cell? ⟨w.heap.size, 1, none⟩ = some (.int .i64 n))
    (first | go_keep | (refine ⟨keep_cell hb ?_, keep_cell hb ?_⟩ <;> go_keep))
    (first | (go_at_call_of 65 r; refine (HR _).mono ?_; rintro e w1 ⟨rfl, hb⟩; have hb1 := hb) | (go_at_call_of 65 n; refine (HN _).mono ?_; rintro e w2 ⟨rfl, hb⟩; have hb2 := hb))
  all_goals
    go_wp2
    go_ret
    exact ⟨ret_str (by rw [append_mk, dcode]), bchain (bchain (below_new _ _).drew hb1) hb2⟩

set_option maxRecDepth 20000 in
theorem refDotCode_any (d : D) (w : World) (hd : GoD [d]) :
    Calls Try.prog 69 #[dV d] w fun e w' => e = .returned (.string ⟨(dcode d).toArray⟩) ∧ Below w.heap.size w w' := by
  obtain ⟨⟨h0, h1⟩, h2, h3⟩ := hd d (by simp)
  obtain ⟨r, n⟩ := d
  simp only at h0 h1 h2 h3
  have lr := Pk.enc_len9 (n := r.toNat) (by omega)
  have ln := Pk.enc_len9 (n := n.toNat) (by omega)
  have hs1 : ¬ 9223372036854775807 < (Pk.enc r.toNat).length + (Pk.enc n.toNat).length := by omega
  have HR : ∀ w, Calls Try.prog 68 #[.int .i64 r] w fun e w' => e = .returned (.string ⟨(Pk.enc r.toNat).toArray⟩) ∧ Below w.heap.size w w' := fun w => refInt_any r w h0 h1
  have HN : ∀ w, Calls Try.prog 68 #[.int .i64 n] w fun e w' => e = .returned (.string ⟨(Pk.enc n.toNat).toArray⟩) ∧ Below w.heap.size w w' := fun w => refInt_any n w h2 h3
  clear h0 h1 h2 h3 hd
  go_enter Try.func69, Try.ntmps69
  go_wp2_with fail
  go_region_held3 (fun w' => w'.cell? ⟨w.heap.size, 0, none⟩ = some (.int .i64 r) ∧ w'.cell? ⟨w.heap.size, 1, none⟩ = some (.int .i64 n))
    (first | go_keep | (refine ⟨keep_cell hb ?_, keep_cell hb ?_⟩ <;> go_keep))
    (first | (go_at_call_of 68 r; refine (HR _).mono ?_; rintro e w1 ⟨rfl, hb⟩; have hb1 := hb) | (go_at_call_of 68 n; refine (HN _).mono ?_; rintro e w2 ⟨rfl, hb⟩; have hb2 := hb))
  all_goals
    go_wp2
    go_ret
    exact ⟨ret_str (by rw [append_mk, dcode]), bchain (bchain (below_new _ _).drew hb1) hb2⟩

set_option maxRecDepth 20000 in
set_option maxHeartbeats 2000000 in
theorem list_any (v : Value) (ds : List D) (w : World) (hd : dotsIn w v ds) (hn : ds.length ≤ 1000000) (hg : GoD ds) :
    Calls Try.prog 32 #[v] w fun e w' => e = .returned (.string ⟨(lcode ds).toArray⟩) ∧ Below w.heap.size w w' := by
  obtain ⟨W0, hW0⟩ : ∃ W0, W0 = w.alloc (.cells #[.pointer none, .slice none 0 0] 75) := ⟨_, rfl⟩
  have hI : Lib.IsBuilderF 75 5 w.heap.size w.heap.size (Lib.byteCells []) W0 := by
    rw [hW0]
    have := Lib.IsBuilderF.of (Lib.fresh_isBuilder 75 5 w)
    simpa [Lib.byteCells] using this
  have hB0 : Below w.heap.size w W0 := by rw [hW0]; exact below_new _ _
  have HW : Hid (W0 = w.alloc (.cells #[.pointer none, .slice none 0 0] 75)) := hW0
  obtain ⟨n, hn0⟩ : ∃ n, n = ds.length := ⟨_, rfl⟩
  have HN : Hid (n = ds.length) := hn0
  have HLen : Hid (∀ k, (lcodeTo ds k).length ≤ 100000000) := lcodeTo_len hg hn
  have HG : Hid (GoD ds) := hg
  have HDs : Hid (dotsIn w v ds) := hd
  obtain ⟨ao, ca, rfl, _, _⟩ := hd
  have HC : ∀ w1, Calls Try.prog 65 #[.int .i64 (n : Int)] w1 fun e w2 => e = .returned (.string ⟨(lcodeTo ds 0).toArray⟩) ∧ Below w1.heap.size w1 w2 := fun w1 => by
    have := int_any (n : Int) w1 (by omega) (by omega)
    rw [Int.toNat_natCast, hn0, ← lcodeTo_zero, ← hn0] at this
    exact this
  have HF : Hid (lcodeTo ds n = lcode ds) := by have h := lcodeTo_all ds; rw [← hn0] at h; exact h
  have HL0 : Hid ((Lib.byteCells []).length + (⟨(lcodeTo ds 0).toArray⟩ : ByteArray).size ≤ 140737488355328) := by
    have h : (Lib.byteCells []).length + (⟨(lcodeTo ds 0).toArray⟩ : ByteArray).size ≤ 140737488355328 := by
      have := HLen.out 0
      have e : (⟨(lcodeTo ds 0).toArray⟩ : ByteArray).size = (lcodeTo ds 0).length := by simp [ByteArray.size]
      rw [Lib.byteCells_length, e]
      simp only [List.length_nil]
      omega
    exact h
  have HX0 : Hid (Lib.byteCells [] ++ Lib.strCells ⟨(lcodeTo ds 0).toArray⟩ = Lib.byteCells (lcodeTo ds 0)) := by
    have h : Lib.byteCells [] ++ Lib.strCells ⟨(lcodeTo ds 0).toArray⟩ = Lib.byteCells (lcodeTo ds 0) := by simp [Lib.byteCells]; rfl
    exact h
  have HI : Hid (Lib.IsBuilderF 75 5 w.heap.size w.heap.size (Lib.byteCells []) W0) := hI
  have HB0 : Hid (Below w.heap.size w W0) := hB0
  rw [← hn0] at HDs ⊢
  clear hg hW0 hI hB0 hn0
  go_enter Try.func32, Try.ntmps32
  go_wp2_with (first
    | (go_at_call 65; refine (HC _).mono ?_; rintro e w1 ⟨rfl, hb1⟩; rw [← HW.out] at hb1; have hI1 := builder_below HI.out hb1; have hB1 := bchain HB0.out hb1; have hs1 := hB1.size)
    | (go_at_call 64; refine (writeString_any w.heap.size w.heap.size _ _ _ hI1 HL0.out (by omega)).mono ?_; rintro e w2 ⟨rfl, hL2, hb2, _⟩))
  rw [HX0.out] at hL2
  have HB2 := hB1.trans hb2
  clear HC hI1 hb1 hb2 hB1 hs1
  go_loopw [12] (fun i wr => ∃ k : Nat, k ≤ n ∧ i = .int .i64 k ∧ Lib.IsBuilderF 75 5 w.heap.size w.heap.size (Lib.byteCells (lcodeTo ds k)) wr ∧ Below w.heap.size w wr) (fun i _ => n - (intOf i).toNat)
  case atStart => exact ⟨0, by omega, rfl, hL2, HB2⟩
  case round =>
    clear hL2 HB2
    obtain ⟨k, hk, rfl, hI, hB⟩ := hrel
    by_cases hlt : k < n
    · have hkx : k < ds.length := by have := HN.out; omega
      obtain ⟨ao2, cap2, e2, _, hc⟩ := HDs.out.on hB
      obtain ⟨ad, hao, c0, c1⟩ := hc k hkx
      have e3 : ao = some ad := by cases e2; exact hao
      subst e3
      clear hc e2 hao
      have hst := lcodeTo_step ds k hkx
      have hl1 := HLen.out (k + 1)
      have hgd : GoD [ds[k]] := fun x hx => by
        rw [List.mem_singleton] at hx
        subst hx
        exact HG.out _ (List.getElem_mem hkx)
      have HC : ∀ w1, Calls Try.prog 66 #[dV ds[k]] w1 fun e w2 => e = .returned (.string ⟨(dcode ds[k]).toArray⟩) ∧ Below w1.heap.size w1 w2 := fun w1 => dotCode_any _ w1 hgd
      have HX : Hid (Lib.byteCells (lcodeTo ds (k + 1)) = Lib.byteCells (lcodeTo ds k) ++ Lib.strCells ⟨(dcode ds[k]).toArray⟩) := by
        have h : Lib.byteCells (lcodeTo ds (k + 1)) = Lib.byteCells (lcodeTo ds k) ++ Lib.strCells ⟨(dcode ds[k]).toArray⟩ := by rw [hst, Lib.byteCells_append]; rfl
        exact h
      have HL : Hid ((Lib.byteCells (lcodeTo ds k)).length + (⟨(dcode ds[k]).toArray⟩ : ByteArray).size ≤ 140737488355328) := by
        have h : (Lib.byteCells (lcodeTo ds k)).length + (⟨(dcode ds[k]).toArray⟩ : ByteArray).size ≤ 140737488355328 := by
          rw [Lib.byteCells_length]
          have : (⟨(dcode ds[k]).toArray⟩ : ByteArray).size = (dcode ds[k]).length := by simp [ByteArray.size]
          rw [hst, List.length_append] at hl1
          omega
        exact h
      clear hst hl1 hgd
      generalize dcode ds[k] = q at *
      generalize ds[k] = d at *
      have hs1 := hB.size
      have hk0 : (0 : Int) ≤ (k : Int) := by omega
      have hk1 : (k : Int) < (n : Int) := by omega
      have hI0 := builder_below hI (below_new wr (.cells #[.int .i64 d.1, .int .i64 d.2] 28))
      have hB0 := bchain hB (below_new wr (.cells #[.int .i64 d.1, .int .i64 d.2] 28))
      go_wp2_with (first
        | (go_at_call 66; refine (HC _).mono ?_; rintro e w1 ⟨rfl, hb1⟩; have hI1 := builder_below hI0 hb1; have hB1 := bchain hB0 hb1; have hs2 := hB1.size)
        | (go_at_call 64; refine (writeString_any w.heap.size w.heap.size _ _ _ hI1 HL.out (by omega)).mono ?_; rintro e w2 ⟨rfl, hL, hb2, _⟩))
      go_roundw
      case rel => exact ⟨k + 1, by omega, by go_num, by rw [HX.out]; exact hL, hB1.trans hb2⟩
      case measure => first | (simp [intOf]; done) | (simp [intOf]; omega)
    · obtain rfl : k = n := by omega
      have hs1 := hB.size
      rw [HF.out] at hI
      go_wp2_with (go_at_call 67; refine (bString w.heap.size w.heap.size _ _ hI (by omega)).mono ?_; rintro e w1 ⟨rfl, _, hb, _⟩)
      go_ret
      exact ⟨rfl, hB.trans hb⟩

set_option maxRecDepth 20000 in
set_option maxHeartbeats 2000000 in
theorem refList_any (v : Value) (ds : List D) (w : World) (hd : dotsIn w v ds) (hn : ds.length ≤ 1000000) (hg : GoD ds) :
    Calls Try.prog 33 #[v] w fun e w' => e = .returned (.string ⟨(lcode ds).toArray⟩) ∧ Below w.heap.size w w' := by
  obtain ⟨n, hn0⟩ : ∃ n, n = ds.length := ⟨_, rfl⟩
  have HN : Hid (n = ds.length) := hn0
  have HLen : Hid (∀ k, (lcodeTo ds k).length ≤ 100000000) := lcodeTo_len hg hn
  have HG : Hid (GoD ds) := hg
  have HDs : Hid (dotsIn w v ds) := hd
  obtain ⟨ao, ca, rfl, _, _⟩ := hd
  have HC : ∀ w1, Calls Try.prog 68 #[.int .i64 (n : Int)] w1 fun e w2 => e = .returned (.string ⟨(lcodeTo ds 0).toArray⟩) ∧ Below w1.heap.size w1 w2 := fun w1 => by
    have := refInt_any (n : Int) w1 (by omega) (by omega)
    rw [Int.toNat_natCast, hn0, ← lcodeTo_zero, ← hn0] at this
    exact this
  have HF : Hid (lcodeTo ds n = lcode ds) := by have h := lcodeTo_all ds; rw [← hn0] at h; exact h
  rw [← hn0] at HDs ⊢
  clear hg hn0
  go_enter Try.func33, Try.ntmps33
  go_wp2_with (first | (go_at_call 68; refine (HC _).mono ?_; rintro e w1 ⟨rfl, hb1⟩))
  clear HC
  go_loopw [3, 4] (fun s i wr => ∃ k : Nat, k ≤ n ∧ i = .int .i64 k ∧ s = .string ⟨(lcodeTo ds k).toArray⟩ ∧ Below w.heap.size w wr) (fun _ i _ => n - (intOf i).toNat)
  case atStart => exact ⟨0, by omega, rfl, rfl, hb1⟩
  case round =>
    clear hb1
    obtain ⟨k, hk, rfl, rfl, hB⟩ := hrel
    by_cases hlt : k < n
    · have hkx : k < ds.length := by have := HN.out; omega
      obtain ⟨ao2, cap2, e2, _, hc⟩ := HDs.out.on hB
      obtain ⟨ad, hao, c0, c1⟩ := hc k hkx
      have e3 : ao = some ad := by cases e2; exact hao
      subst e3
      clear hc e2 hao
      have hst := lcodeTo_step ds k hkx
      have hl1 := HLen.out (k + 1)
      have hgd : GoD [ds[k]] := fun x hx => by
        rw [List.mem_singleton] at hx
        subst hx
        exact HG.out _ (List.getElem_mem hkx)
      have HC : ∀ w1, Calls Try.prog 69 #[dV ds[k]] w1 fun e w2 => e = .returned (.string ⟨(dcode ds[k]).toArray⟩) ∧ Below w1.heap.size w1 w2 := fun w1 => refDotCode_any _ w1 hgd
      have HX : Hid ((⟨(lcodeTo ds (k + 1)).toArray⟩ : ByteArray) = ⟨(lcodeTo ds k).toArray⟩ ++ ⟨(dcode ds[k]).toArray⟩) := by
        have h : (⟨(lcodeTo ds (k + 1)).toArray⟩ : ByteArray) = ⟨(lcodeTo ds k).toArray⟩ ++ ⟨(dcode ds[k]).toArray⟩ := by rw [hst, append_mk]
        exact h
      have hroom : ¬ 9223372036854775807 < (lcodeTo ds k).length + (dcode ds[k]).length := by
        rw [hst, List.length_append] at hl1
        omega
      clear hst hl1 hgd
      generalize dcode ds[k] = q at *
      generalize ds[k] = d at *
      have hk0 : (0 : Int) ≤ (k : Int) := by omega
      have hk1 : (k : Int) < (n : Int) := by omega
      go_wp2_with (go_at_call 69; refine (HC _).mono ?_; rintro e w2 ⟨rfl, hb2⟩; have hB1 := bchain hB hb2)
      go_roundw
      case rel => exact ⟨k + 1, by omega, by go_num, by rw [HX.out], hB1⟩
      case measure => first | (simp [intOf]; done) | (simp [intOf]; omega)
    · obtain rfl : k = n := by omega
      go_wp2
      go_ret
      exact ⟨ret_str (by rw [HF.out]), hB⟩
end Go.Proofs.Ytenfbjlmfdiniaa
