/- The walks of Text and Code and of the document's. -/
import Derived.Test.YtghkjbekjkejpaaEach
import Derived.Test.YtghkjbekjkejpaaLayJoin
namespace Go.Proofs.Ytghkjbekjkejpaa.U
open Go.RowKit

theorem bchain {a b c : World} (h1 : Below a.heap.size a b) (h2 : Below b.heap.size b c) : Below a.heap.size a c := h1.trans (h2.mono h1.size)
theorem ret_str2 {a b : List UInt8} (h : a = b) : Ending.returned (.string ⟨a.toArray⟩) = .returned (.string ⟨b.toArray⟩) := by rw [h]

/-! ### Lengths -/
theorem lens_le {ys : List (List UInt8)} {m : Nat} (h : ∀ y ∈ ys, y.length ≤ m) : Lib.lens ys ≤ ys.length * m := by
  induction ys with
  | nil => simp [Lib.lens]
  | cons y ys ih =>
    have h1 := ih (fun x hx => h x (by simp [hx]))
    have h2 := h y (by simp)
    simp only [Lib.lens, List.map_cons, List.sum_cons, List.length_cons] at h1 ⊢
    rw [Nat.succ_mul]
    omega
theorem join_len {ys : List (List UInt8)} {m : Nat} (sep : List UInt8) (h : ∀ y ∈ ys, y.length ≤ m) : (Lib.join ys sep).length ≤ ys.length * (m + sep.length) := by
  cases ys with
  | nil => simp [Lib.join_nil]
  | cons y r =>
    rw [Lib.join_cons, List.length_append, Lib.joinTail_length]
    have h1 := lens_le (ys := r) (fun x hx => h x (by simp [hx]))
    have h2 := h y (by simp)
    simp only [List.length_cons]
    rw [Nat.succ_mul, Nat.mul_add, Nat.mul_comm sep.length]
    omega
/-- A few short parts. -/
def Few (xs : List (List UInt8)) : Prop := xs.length ≤ 12 ∧ ∀ x ∈ xs, x.length ≤ 120
theorem Few.each {xs : List (List UInt8)} (h : Few xs) : xs.length ≤ 1000 ∧ ∀ x ∈ xs, x.length ≤ 1000000 := ⟨by have := h.1; omega, fun x hx => by have := h.2 x hx; omega⟩
theorem enc_len {n : Nat} (h : n < 9223372036854775808) : (Pk.enc n).length ≤ 9 := Pk.enc_len9 h
theorem textL_len {x : List UInt8} (h : x.length ≤ 120) : (Pt.textL x).length ≤ 129 := by
  unfold Pt.textL
  rw [List.length_append]
  have := enc_len (show x.length < 9223372036854775808 by omega)
  omega
theorem Few.joined {xs : List (List UInt8)} (h : Few xs) : (Nm.joined xs).length ≤ 2892 := by
  rw [← Pt.joined_join]
  have h1 := join_len (ys := xs.map Nm.quote) (m := 240) [47] (fun y hy => by
    obtain ⟨x, hx, rfl⟩ := List.mem_map.1 hy
    have := Nm.quote_length x
    have := h.2 x hx
    omega)
  rw [List.length_map] at h1
  have h2 := h.1
  have h3 : xs.length * (240 + [(47 : UInt8)].length) ≤ 12 * 241 := Nat.mul_le_mul h2 (by simp)
  omega
theorem Few.flat {xs : List (List UInt8)} (h : Few xs) : (xs.map Pt.textL).flatten.length ≤ 1548 := by
  rw [← Pt.join_empty]
  have h1 := join_len (ys := xs.map Pt.textL) (m := 129) [] (fun y hy => by
    obtain ⟨x, hx, rfl⟩ := List.mem_map.1 hy
    exact textL_len (h.2 x hx))
  rw [List.length_map] at h1
  have h2 := h.1
  have h3 : xs.length * (129 + ([] : List UInt8).length) ≤ 12 * 129 := Nat.mul_le_mul h2 (by simp)
  omega
theorem Few.take {xs : List (List UInt8)} (h : Few xs) (k : Nat) : Few (xs.take k) := ⟨by rw [List.length_take]; have := h.1; omega, fun x hx => h.2 x (List.mem_of_mem_take hx)⟩
theorem Few.code {xs : List (List UInt8)} (h : Few xs) : (Pt.code xs).length ≤ 1557 := by
  unfold Pt.code
  rw [List.length_append]
  have h1 := enc_len (show xs.length < 9223372036854775808 by have := h.1; omega)
  have h2 := h.flat
  omega

/-! ### The program's -/
set_option maxRecDepth 20000 in
theorem code_any (v : Value) (xs : List (List UInt8)) (w : World) (hf : Few xs) (hv : strsAt w v xs) :
    Calls Try.prog 61 #[v] w fun e w' => e = .returned (.string ⟨(Pt.code xs).toArray⟩) ∧ Below w.heap.size w w' := by
  have hv' := hv
  obtain ⟨ao, ca, rfl, _, _⟩ := hv'
  have hn := hf.1
  have HI := int_any (xs.length : Int) w (by omega) (by omega)
  rw [show ((xs.length : Int)).toNat = xs.length by omega] at HI
  have HE := fun w1 (hb : Below w.heap.size w w1) => each_text _ xs w1 hf.each.1 hf.each.2 (strsAt_below hv hb (Nat.le_refl _))
  have HJ : ∀ (B : Nat) (u : Value) (w1 : World), w1.ownsRow B 9 1 u xs.length (cellsS (xs.map Pt.textL)) → Calls Try.prog 83 #[u, .string ⟨#[]⟩] w1 fun e w' => e = .returned (.string ⟨((xs.map Pt.textL).flatten).toArray⟩) ∧ Below w1.heap.size w1 w' := fun B u w1 h => by
    have hl := hf.flat
    have hc := join_own (ys := xs.map Pt.textL) [] (by rw [List.length_map]; exact h) (by rw [List.length_map]; have := hf.1; omega) (by rw [Pt.join_empty]; omega)
    rw [Pt.join_empty] at hc
    exact hc
  have HL : Hid ((⟨(Pk.enc xs.length).toArray⟩ : ByteArray) ++ ⟨((xs.map Pt.textL).flatten).toArray⟩ = ⟨(Pt.code xs).toArray⟩) := by
    have h : (⟨(Pk.enc xs.length).toArray⟩ : ByteArray) ++ ⟨((xs.map Pt.textL).flatten).toArray⟩ = ⟨(Pt.code xs).toArray⟩ := by
      rw [append_mk]
      simp [Pt.code]
    exact h
  have hl1 := enc_len (show xs.length < 9223372036854775808 by omega)
  have hl2 := hf.flat
  clear hv hf
  generalize (xs.map Pt.textL).flatten = fl at *
  generalize Pk.enc xs.length = en at *
  go_enter Try.func61, Try.ntmps61
  go_wp2_with (go_at_call 40; (with_reducible refine HI.mono ?_))
  rintro e w1 ⟨rfl, hb1⟩
  have HE1 := HE w1 hb1
  go_wp2_with (go_at_call 84; (with_reducible refine HE1.mono ?_))
  rintro e w2 ⟨u, rfl, hown, hb2⟩
  have HJ1 := HJ _ u w2 hown
  go_wp2_with (go_at_call 83; (with_reducible refine HJ1.mono ?_); rintro e w3 ⟨rfl, hb3⟩)
  go_ret
  exact ⟨ret_str HL.out, bchain (bchain hb1 hb2) hb3⟩

/-! ### The document's -/
theorem joined_first {xs : List (List UInt8)} (h : 0 < xs.length) : Nm.joined (xs.take 1) = Nm.quote xs[0] := by
  cases xs with
  | nil => simp at h
  | cons a r => simp [Nm.joined]
theorem joined_next {xs : List (List UInt8)} {k : Nat} (h : k < xs.length) (hk : 0 < k) : Nm.joined (xs.take (k + 1)) = Nm.joined (xs.take k) ++ 47 :: Nm.quote xs[k] := by
  rw [List.take_succ_eq_append_getElem h, Nm.joined_snoc]
  intro e
  have := congrArg List.length e
  rw [List.length_take, Nat.min_eq_left (by omega), List.length_nil] at this
  omega
theorem app_slash (a b : List UInt8) : (⟨a.toArray⟩ : ByteArray) ++ ⟨#[47]⟩ ++ ⟨b.toArray⟩ = ⟨(a ++ 47 :: b).toArray⟩ := by
  apply bytes_of
  rw [ByteArray.data_append, ByteArray.data_append, Array.toList_append, Array.toList_append]
  simp
theorem app_empty (b : List UInt8) : (⟨#[]⟩ : ByteArray) ++ ⟨b.toArray⟩ = ⟨b.toArray⟩ := by
  apply bytes_of
  rw [ByteArray.data_append, Array.toList_append]
  simp
/-- The text so far. -/
def joinV (xs : List (List UInt8)) (k : Nat) : Value := .string ⟨(Nm.joined (xs.take k)).toArray⟩

/-- The bytes so far. -/
def codeTo (xs : List (List UInt8)) (k : Nat) : List UInt8 := Pk.enc xs.length ++ ((xs.take k).map Pt.textL).flatten
theorem codeTo_succ {xs : List (List UInt8)} {k : Nat} (h : k < xs.length) : codeTo xs (k + 1) = codeTo xs k ++ Pt.textL xs[k] := by
  unfold codeTo
  rw [List.take_succ_eq_append_getElem h, List.map_append, List.flatten_append, List.append_assoc]
  simp only [List.map_cons, List.map_nil, List.flatten_cons, List.flatten_nil, List.append_nil]
theorem codeTo_zero (xs : List (List UInt8)) : codeTo xs 0 = Pk.enc xs.length := by simp [codeTo]
theorem codeTo_all (xs : List (List UInt8)) : codeTo xs xs.length = Pt.code xs := by simp [codeTo, Pt.code]
theorem codeTo_len {xs : List (List UInt8)} (h : Few xs) (k : Nat) : (codeTo xs k).length ≤ 1557 := by
  unfold codeTo
  rw [List.length_append]
  have h1 := enc_len (show xs.length < 9223372036854775808 by have := h.1; omega)
  have h2 := (h.take k).flat
  omega
def codeV (xs : List (List UInt8)) (k : Nat) : Value := .string ⟨(codeTo xs k).toArray⟩

set_option maxRecDepth 20000 in
set_option maxHeartbeats 4000000 in
theorem refCode_any (v : Value) (xs : List (List UInt8)) (w : World) (hf : Few xs) (hv : strsAt w v xs) :
    Calls Try.prog 68 #[v] w fun e w' => e = .returned (.string ⟨(Pt.code xs).toArray⟩) ∧ Below w.heap.size w w' := by
  obtain ⟨ao, ca, rfl, _, hc⟩ := hv
  have hn := hf.1
  have HI := refInt_any (xs.length : Int) w (by omega) (by omega)
  rw [show ((xs.length : Int)).toNat = xs.length by omega, ← codeTo_zero] at HI
  go_enter Try.func68, Try.ntmps68
  go_wp2_with (go_at_call 44; (with_reducible refine HI.mono ?_))
  rintro e w0 ⟨rfl, hb0⟩
  go_wp2
  go_loopw [3, 4] (fun x i wr => ∃ k : Nat, k ≤ xs.length ∧ i = .int .i64 k ∧ x = codeV xs k ∧ Below w.heap.size w wr) (fun _ i _ => xs.length - (intOf i).toNat)
  case atStart => exact ⟨0, by omega, rfl, rfl, hb0⟩
  case round =>
    obtain ⟨k, hk, rfl, rfl, hbw⟩ := hrel
    have hjl := codeTo_len hf k
    by_cases hlt : k < xs.length
    · obtain ⟨ad, rfl, hA⟩ := hc k hlt
      have hA2 : wr.cell? (ad.add k) = some (.string ⟨(xs[k]).toArray⟩) := (hbw.cell (World.block_lt_of_cell? _ _ hA)).trans hA
      have hzk := hf.2 _ (List.getElem_mem hlt)
      have HQ : ∀ W, Calls Try.prog 88 #[.string ⟨(xs[k]).toArray⟩] W fun e w' => e = .returned (.string ⟨(Pt.textL xs[k]).toArray⟩) ∧ Below W.heap.size W w' := fun w0 => refText_any ⟨(xs[k]).toArray⟩ w0 (by simp [ByteArray.size]; omega)
      have hql := textL_len hzk
      have HJ : Hid (codeV xs (k + 1) = .string ((⟨(codeTo xs k).toArray⟩ : ByteArray) ++ ⟨(Pt.textL xs[k]).toArray⟩)) := by
        have h : codeV xs (k + 1) = .string ((⟨(codeTo xs k).toArray⟩ : ByteArray) ++ ⟨(Pt.textL xs[k]).toArray⟩) := by rw [append_mk, codeV, codeTo_succ hlt]
        exact h
      have hj0 : codeV xs k = .string ⟨(codeTo xs k).toArray⟩ := rfl
      rw [hj0]
      clear hc hA hf
      generalize Pt.textL xs[k] = y at *
      generalize xs[k] = x at *
      generalize codeTo xs k = j at *
      go_wp2_with fail
      refine (HQ _).mono ?_
      rintro e W1 ⟨rfl, hb1⟩
      go_wp2
      go_roundw
      case rel => exact ⟨k + 1, by omega, by go_num, by rw [HJ.out], bchain hbw hb1⟩
      case measure => simp [intOf]; omega
    · obtain rfl : k = xs.length := by omega
      have hj0 : codeV xs xs.length = .string ⟨(Pt.code xs).toArray⟩ := by rw [codeV, codeTo_all]
      rw [hj0]
      clear hc hf
      go_wp2
      go_ret
      exact ⟨rfl, hbw⟩

end Go.Proofs.Ytghkjbekjkejpaa.U
