/- The walks of Parse and of the document's Parse, held against one word: what is wrong with the parts into which a text is split. -/
import Derived.Test.YtcmidcpogcejfaaChecks
import Derived.Test.YtcmidcpogcejfaaSplits
namespace Go.Proofs.Ytcmidcpogcejfaa.U
open Go.RowKit

/-! ### Lengths -/
theorem sp_len (l : List UInt8) : ∀ (esc : Bool) (outs : List (List UInt8)) (word : List UInt8) (r : List (List UInt8)), Nm.sp l esc outs word = some r → r.length ≤ outs.length + 1 + l.length := by
  induction l with
  | nil =>
    intro esc outs word r h
    cases esc with
    | true => simp [Nm.sp] at h
    | false =>
      simp only [Nm.sp, Option.some.injEq] at h
      subst h
      simp
  | cons b l ih =>
    intro esc outs word r h
    cases esc with
    | true =>
      simp only [Nm.sp] at h
      split at h
      · have := ih _ _ _ _ h
        simp only [List.length_cons]
        omega
      · cases h
    | false =>
      simp only [Nm.sp] at h
      split at h
      · have := ih _ _ _ _ h
        simp only [List.length_cons]
        omega
      · split at h
        · have := ih _ _ _ _ h
          simp only [List.length_append, List.length_cons, List.length_nil] at this ⊢
          omega
        · have := ih _ _ _ _ h
          simp only [List.length_cons]
          omega
theorem sp_parts (l : List UInt8) (m : Nat) : ∀ (esc : Bool) (outs : List (List UInt8)) (word : List UInt8) (r : List (List UInt8)), (∀ x ∈ outs, x.length ≤ m) → word.length + l.length ≤ m → Nm.sp l esc outs word = some r → ∀ x ∈ r, x.length ≤ m := by
  induction l with
  | nil =>
    intro esc outs word r ho hw h
    cases esc with
    | true => simp [Nm.sp] at h
    | false =>
      simp only [Nm.sp, Option.some.injEq] at h
      subst h
      intro x hx
      rcases List.mem_append.1 hx with hx | hx
      · exact ho x hx
      · rw [List.mem_singleton.1 hx]; simp at hw; omega
  | cons b l ih =>
    intro esc outs word r ho hw h
    simp only [List.length_cons] at hw
    cases esc with
    | true =>
      simp only [Nm.sp] at h
      split at h
      · exact ih _ _ _ _ ho (by simp; omega) h
      · cases h
    | false =>
      simp only [Nm.sp] at h
      split at h
      · exact ih _ _ _ _ ho (by omega) h
      · split at h
        · refine ih _ _ _ _ ?_ (by simp; omega) h
          intro x hx
          rcases List.mem_append.1 hx with hx | hx
          · exact ho x hx
          · rw [List.mem_singleton.1 hx]; omega
        · exact ih _ _ _ _ ho (by simp; omega) h
theorem splitL_len (l : List UInt8) : (splitL l).length ≤ l.length + 1 := by
  unfold splitL
  cases h : Nm.split l with
  | none => simp
  | some r =>
    have := sp_len l false [] [] r h
    simp at this ⊢
    omega
theorem splitL_parts (l : List UInt8) : ∀ x ∈ splitL l, x.length ≤ l.length := by
  unfold splitL
  cases h : Nm.split l with
  | none => simp
  | some r => exact sp_parts l l.length false [] [] r (by simp) (by simp) h

/-! ### What a text is parsed as -/
def perr (l : List UInt8) : Nat := Pt.check (splitL l)
def parsed (l : List UInt8) : List (List UInt8) := if perr l = 0 then splitL l else []
theorem parsed_ok {l : List UInt8} (h : perr l = 0) : parsed l = splitL l := by unfold parsed; rw [if_pos h]
theorem parsed_no {l : List UInt8} (h : perr l ≠ 0) : parsed l = [] := by unfold parsed; rw [if_neg h]
theorem perr_none {l : List UInt8} (h : splitOk l = false) : perr l = 8 := by
  unfold perr splitL
  unfold splitOk at h
  cases e : Nm.split l with
  | none => rfl
  | some r => rw [e] at h; cases h
theorem perr_empty : perr [] = 8 := by decide
theorem parsed_len (l : List UInt8) : (parsed l).length ≤ 8 := by
  by_cases h : perr l = 0
  · rw [parsed_ok h]
    exact (Pt.check_zero h).2.1
  · rw [parsed_no h]; simp
theorem ret_pair {v : Value} {a b : Int} (h : a = b) : Ending.returned (.tuple #[v, .int .i64 a]) = .returned (.tuple #[v, .int .i64 b]) := by rw [h]
theorem nat_int {a b : Nat} (h : a = b) : (a : Int) = (b : Int) := by rw [h]

set_option maxRecDepth 20000 in
set_option maxHeartbeats 2000000 in
theorem parse_any (s : ByteArray) (w : World) (hs : s.size ≤ 2000000) :
    Calls Try.prog 22 #[.string s] w fun e w' => ∃ v, e = .returned (.tuple #[v, .int .i64 (perr s.data.toList : Nat)]) ∧ strsAt w' v (parsed s.data.toList) ∧ Below w.heap.size w w' := by
  have HS := split_any s w hs
  have hl := splitL_len s.data.toList
  rw [size_len] at hl
  have HC := fun v W (h : strsAt W v (splitL s.data.toList)) => check_any v (splitL s.data.toList) W (by omega) h
  by_cases h0 : perr s.data.toList = 0
  · have HP : Hid (parsed s.data.toList = splitL s.data.toList) := parsed_ok h0
    have h0' : Pt.check (splitL s.data.toList) = 0 := h0
    rw [h0'] at HC
    have HZ : Hid (perr s.data.toList = 0) := h0
    clear h0 h0' hl
    go_enter Try.func22, Try.ntmps22
    go_wp2_with (go_at_call 46; (with_reducible refine HS.mono ?_))
    rintro e w1 ⟨v, rfl, hv, hb1⟩
    have HC1 := HC v w1 hv
    go_wp2_with (go_at_call 10; (with_reducible refine HC1.mono ?_); rintro e w2 ⟨rfl, hb2⟩)
    go_ret2
    exact ⟨_, ret_pair (nat_int HZ.out.symm), by rw [HP.out]; exact strsAt_below hv hb2 (Nat.le_refl _), hb1.trans (hb2.mono hb1.size)⟩
  · have HP : Hid (parsed s.data.toList = []) := parsed_no h0
    have HZ : Hid (Pt.check (splitL s.data.toList) = perr s.data.toList) := by
      have h : Pt.check (splitL s.data.toList) = perr s.data.toList := rfl
      exact h
    have hne : (((perr s.data.toList : Nat) : Int) != 0) = true := by simpa using h0
    have HC' : ∀ v W (_ : strsAt W v (splitL s.data.toList)), Calls Try.prog 10 #[v] W fun e w' => e = .returned (.int .i64 (perr s.data.toList : Nat)) ∧ Below W.heap.size W w' := HC
    clear h0 hl HC
    generalize perr s.data.toList = q at *
    go_enter Try.func22, Try.ntmps22
    go_wp2_with (go_at_call 46; (with_reducible refine HS.mono ?_))
    rintro e w1 ⟨v, rfl, hv, hb1⟩
    have HC1 := HC' v w1 hv
    go_wp2_with (go_at_call 10; (with_reducible refine HC1.mono ?_); rintro e w2 ⟨rfl, hb2⟩)
    go_ret2
    exact ⟨_, rfl, by rw [HP.out]; exact strsAt_nil _, hb1.trans (hb2.mono hb1.size)⟩

set_option maxRecDepth 20000 in
set_option maxHeartbeats 2000000 in
theorem refParse_any (s : ByteArray) (w : World) (hs : s.size ≤ 2000000) :
    Calls Try.prog 23 #[.string s] w fun e w' => ∃ v, e = .returned (.tuple #[v, .int .i64 (perr s.data.toList : Nat)]) ∧ strsAt w' v (parsed s.data.toList) ∧ Below w.heap.size w w' := by
  by_cases hE : s.toList.isEmpty = true
  · have hL : s.data.toList = [] := by rw [ByteArray.toList_eq] at hE; exact List.isEmpty_iff.1 hE
    have HZ : Hid (perr s.data.toList = 8) := by
      have h : perr s.data.toList = 8 := by rw [hL]; exact perr_empty
      exact h
    have HP : Hid (parsed s.data.toList = []) := by
      have h : parsed s.data.toList = [] := parsed_no (by rw [HZ.out]; decide)
      exact h
    clear hL
    go_enter Try.func23, Try.ntmps23
    go_wp2
    go_ret2
    exact ⟨_, ret_pair (nat_int HZ.out.symm), by rw [HP.out]; exact strsAt_nil _, Below.refl _ w⟩
  have hE2 : s.toList.isEmpty = false := by simpa using hE
  clear hE
  have HS := refSplit_any s w hs
  have hl := splitL_len s.data.toList
  have hq := splitL_parts s.data.toList
  rw [size_len] at hl hq
  have HC := fun v W (h : strsAt W v (splitL s.data.toList)) => refCheck_any v (splitL s.data.toList) W (by omega) (fun x hx => Nat.le_trans (hq x hx) hs) h
  cases hok : splitOk s.data.toList with
  | false =>
    rw [hok] at HS
    have HZ : Hid (perr s.data.toList = 8) := perr_none hok
    have HP : Hid (parsed s.data.toList = []) := parsed_no (by rw [perr_none hok]; decide)
    clear hok HC hl hq
    go_enter Try.func23, Try.ntmps23
    go_wp2_with (go_at_call 47; (with_reducible refine HS.mono ?_))
    rintro e w1 ⟨v, rfl, hv, hb1⟩
    go_wp2
    go_ret2
    exact ⟨_, ret_pair (nat_int HZ.out.symm), by rw [HP.out]; exact strsAt_nil _, hb1⟩
  | true =>
    rw [hok] at HS
    clear hok hl hq
    by_cases h0 : perr s.data.toList = 0
    · have HP : Hid (parsed s.data.toList = splitL s.data.toList) := parsed_ok h0
      have h0' : Pt.check (splitL s.data.toList) = 0 := h0
      rw [h0'] at HC
      have HZ : Hid (perr s.data.toList = 0) := h0
      clear h0 h0'
      go_enter Try.func23, Try.ntmps23
      go_wp2_with (go_at_call 47; (with_reducible refine HS.mono ?_))
      rintro e w1 ⟨v, rfl, hv, hb1⟩
      have HC1 := HC v w1 hv
      go_wp2_with (go_at_call 11; (with_reducible refine HC1.mono ?_); rintro e w2 ⟨rfl, hb2⟩)
      go_ret2
      exact ⟨_, ret_pair (nat_int HZ.out.symm), by rw [HP.out]; exact strsAt_below hv hb2 (Nat.le_refl _), hb1.trans (hb2.mono hb1.size)⟩
    · have HP : Hid (parsed s.data.toList = []) := parsed_no h0
      have hne : (((perr s.data.toList : Nat) : Int) != 0) = true := by simpa using h0
      have HC' : ∀ v W (_ : strsAt W v (splitL s.data.toList)), Calls Try.prog 11 #[v] W fun e w' => e = .returned (.int .i64 (perr s.data.toList : Nat)) ∧ Below W.heap.size W w' := HC
      clear h0 HC
      generalize perr s.data.toList = q at *
      go_enter Try.func23, Try.ntmps23
      go_wp2_with (go_at_call 47; (with_reducible refine HS.mono ?_))
      rintro e w1 ⟨v, rfl, hv, hb1⟩
      have HC1 := HC' v w1 hv
      go_wp2_with (go_at_call 11; (with_reducible refine HC1.mono ?_); rintro e w2 ⟨rfl, hb2⟩)
      go_ret2
      exact ⟨_, rfl, by rw [HP.out]; exact strsAt_nil _, hb1.trans (hb2.mono hb1.size)⟩

end Go.Proofs.Ytcmidcpogcejfaa.U
