/- The walk of the document's Parse. -/
import Derived.Test.YthphoclfoejbfaaDoorRefNum
import Derived.Test.YthphoclfoejbfaaDoorCodes
namespace Go.Proofs.YthphoclfoejbfaaDoor
open Go.RowKit

/-- What the document's Parse tells: the right value whose text it is, and true; or there is none. -/
def ParEnds (l : List UInt8) (e : Ending) : Prop := (∃ k n t, Vl.pars l = some (k, n, t) ∧ e = .returned (.tuple #[valV k n t, .bool true])) ∨ (Vl.pars l = none ∧ e = .returned (.tuple #[valV 0 0 [], .bool false]))
theorem par_yes {l : List UInt8} {k n : Int} {t : List UInt8} (h : Vl.pars l = some (k, n, t)) : ParEnds l (.returned (.tuple #[valV k n t, .bool true])) := .inl ⟨k, n, t, h, rfl⟩
theorem par_no {l : List UInt8} (h : Vl.pars l = none) : ParEnds l (.returned (.tuple #[valV 0 0 [], .bool false])) := .inr ⟨h, rfl⟩
theorem bytes_eq {s : ByteArray} {l : List UInt8} (h : s.data.toList = l) : s = ⟨l.toArray⟩ := by subst h; simp

/-! ### A text that does not begin with a quote -/
theorem num_yes {l : List UInt8} {m : Int} (h : NumTold l m true) (hr : Vl.right 1 m [] = true) : Vl.pars l = some (1, m, []) :=
  Vl.pars_iff.2 ⟨Vl.right_iff.1 hr, by rw [Vl.text_int]; exact h.2.1 rfl⟩
theorem num_no {l : List UInt8} {m : Int} {ok : Bool} (h : NumTold l m ok) (h1 : l ≠ Vl.tru) (h2 : l ≠ Vl.fls) (h3 : l.head? ≠ some 34) (hr : ok = false ∨ Vl.right 1 m [] = false) : Vl.pars l = none := by
  apply Vl.pars_no h1 h2 h3
  intro n a b e
  obtain ⟨rfl, rfl⟩ := h.2.2 n a b e
  rcases hr with hr | hr
  · cases hr
  · rw [Vl.right_yes (.inl ⟨rfl, rfl, a, b⟩)] at hr; cases hr

/-! ### A text that begins with a quote -/
/-- Where the walk stands: what is read, what is still to read. -/
def upAt (l : List UInt8) (pos : Nat) (acc : List UInt8) : Prop := 1 ≤ pos ∧ pos ≤ l.length ∧ acc.length ≤ pos ∧ Vl.up [] (l.drop 1) = Vl.up acc (l.drop pos)
theorem upAt_one {l : List UInt8} (h : 1 ≤ l.length) : upAt l 1 [] := ⟨Nat.le_refl _, h, by simp, rfl⟩
theorem upAt_plain {s : ByteArray} {pos : Nat} {acc : List UInt8} (h : upAt s.data.toList pos acc) (hp : pos < s.size) (h1 : s[pos].toNat ≠ 34) (h2 : s[pos].toNat ≠ 92) : upAt s.data.toList (pos + 1) (acc ++ [s[pos]]) := by
  obtain ⟨a0, a1, a2, a3⟩ := h
  refine ⟨by omega, by rw [size_len]; omega, by simp; omega, ?_⟩
  rw [a3, drop_cons' hp, Vl.up_step _ _ _ (fun e => h1 (by rw [e]; rfl)) (fun e => h2 (by rw [e]; rfl))]
theorem upAt_esc {s : ByteArray} {pos : Nat} {acc : List UInt8} (h : upAt s.data.toList pos acc) (hp : pos + 1 < s.size) (h1 : s[pos].toNat = 92) (h2 : s[pos + 1].toNat = 34 ∨ s[pos + 1].toNat = 92) : upAt s.data.toList (pos + 1 + 1) (acc ++ [s[pos + 1]]) := by
  obtain ⟨a0, a1, a2, a3⟩ := h
  have e : s[pos] = 92 := UInt8.toNat_inj.1 h1
  refine ⟨by omega, by rw [size_len]; omega, by simp; omega, ?_⟩
  rw [a3, drop_cons' (by omega), drop_cons' hp, e, Vl.up_esc _ _ _ (h2.imp (fun e => UInt8.toNat_inj.1 e) (fun e => UInt8.toNat_inj.1 e))]
/-- What the text is. -/
theorem pars_at {s : ByteArray} (h0 : 0 < s.size) (h34 : s[0].toNat = 34) : Vl.pars s.data.toList = match Vl.up [] (s.data.toList.drop 1) with | some t => if Vl.right 2 0 t = true then some (2, 0, t) else none | none => none := by
  have h1 : s.data.toList = s[0] :: s.data.toList.drop 1 := by
    have := drop_cons' h0
    rwa [List.drop_zero] at this
  have e : s[0] = 34 := UInt8.toNat_inj.1 h34
  conv => lhs; rw [h1, e]
  exact Vl.pars_quote _
theorem up_none {s : ByteArray} (h0 : 0 < s.size) (h34 : s[0].toNat = 34) (h : Vl.up [] (s.data.toList.drop 1) = none) : Vl.pars s.data.toList = none := by rw [pars_at h0 h34, h]
theorem upAt_wrong {s : ByteArray} {pos : Nat} {acc : List UInt8} (h : upAt s.data.toList pos acc) (hp : pos + 1 < s.size) (h1 : s[pos].toNat = 92) (h2 : s[pos + 1].toNat ≠ 34) (h3 : s[pos + 1].toNat ≠ 92) : Vl.up [] (s.data.toList.drop 1) = none := by
  obtain ⟨a0, a1, a2, a3⟩ := h
  have e : s[pos] = 92 := UInt8.toNat_inj.1 h1
  rw [a3, drop_cons' (by omega), drop_cons' hp, e, Vl.up_bad]
  rintro (e | e)
  · exact h2 (by rw [e]; rfl)
  · exact h3 (by rw [e]; rfl)
theorem upAt_last {s : ByteArray} {pos : Nat} {acc : List UInt8} (h : upAt s.data.toList pos acc) (hp : pos < s.size) (hl : ¬ pos + 1 < s.size) (h1 : s[pos].toNat = 92) : Vl.up [] (s.data.toList.drop 1) = none := by
  obtain ⟨a0, a1, a2, a3⟩ := h
  have e : s[pos] = 92 := UInt8.toNat_inj.1 h1
  rw [a3, drop_cons' hp, U.drop_nil hl, e, Vl.up_stop]
theorem upAt_out {s : ByteArray} {pos : Nat} {acc : List UInt8} (h : upAt s.data.toList pos acc) (hp : ¬ pos < s.size) : Vl.up [] (s.data.toList.drop 1) = none := by
  obtain ⟨a0, a1, a2, a3⟩ := h
  rw [a3, U.drop_nil hp]; rfl
theorem upAt_end {s : ByteArray} {pos : Nat} {acc : List UInt8} (h : upAt s.data.toList pos acc) (hp : pos < s.size) (h1 : s[pos].toNat = 34) : Vl.up [] (s.data.toList.drop 1) = if pos + 1 = s.size then some acc else none := by
  obtain ⟨a0, a1, a2, a3⟩ := h
  have e : s[pos] = 34 := UInt8.toNat_inj.1 h1
  rw [a3, drop_cons' hp, e, Vl.up_end]
  by_cases hl : pos + 1 = s.size
  · rw [if_pos hl, if_pos (U.drop_nil (by omega))]
  · rw [if_neg hl, if_neg]
    exact U.drop_ne (by omega)

theorem index_next (s : ByteArray) (pos : Nat) (h : pos + 1 < s.size) : ∀ wx, (Instr.index 9 (.string s) (.int .i64 ((pos : Int) + 1))).run Tryd.prog wx = .ok (.int .u8 (s[pos + 1].toNat : Int)) wx := by
  intro wx
  have h1 := run_index_string (P := Tryd.prog) wx 9 s .i64 (((pos + 1 : Nat)) : Int) Tryd.underlying9
  rw [show ((pos : Int) + 1) = ((pos + 1 : Nat) : Int) from rfl]
  rw [h1, dif_pos ⟨by omega, by omega⟩]
  rfl
theorem slice_next (s : ByteArray) (a : Nat) (h : a + 1 < s.size) : ∀ wx, (Instr.slice 9 (.string s) (some (.int .i64 ((a : Int) + 1))) (some (.int .i64 ((a : Int) + 1 + 1))) none).run Tryd.prog wx = .ok (.string ⟨#[s[a + 1]]⟩) wx := by
  intro wx
  have h1 := slice_one s (a + 1) h wx
  exact h1

set_option maxRecDepth 20000 in
set_option maxHeartbeats 4000000 in
theorem refParse_num (s : ByteArray) (w : World) (hs : s.size ≤ 2000000) (n1 : s.data.toList ≠ Vl.tru) (n2 : s.data.toList ≠ Vl.fls) (n3 : s.data.toList.head? ≠ some 34) :
    Calls Tryd.prog 17 #[.string s] w fun e w' => ParEnds s.data.toList e ∧ Below w.heap.size w w' := by
  have q1 : (s.toList == [116, 114, 117, 101]) = false := by rw [Lib.toList_data, beq_eq_false_iff_ne]; exact n1
  have q2 : (s.toList == [102, 97, 108, 115, 101]) = false := by rw [Lib.toList_data, beq_eq_false_iff_ne]; exact n2
  have D : s.size = 0 ∨ ∃ h : 0 < s.size, s[0].toNat ≠ 34 := by
    by_cases h0 : s.size = 0
    · exact .inl h0
    · refine .inr ⟨by omega, fun e => n3 ?_⟩
      have h1 : s.data.toList = s[0] :: s.data.toList.drop 1 := by
        have := drop_cons' (s := s) (pos := 0) (by omega)
        rwa [List.drop_zero] at this
      rw [h1, show s[0] = 34 from UInt8.toNat_inj.1 e]
      rfl
  have HY : Hid (∀ m, NumTold s.data.toList m true → Vl.right 1 m [] = true → Vl.pars s.data.toList = some (1, m, [])) := by
    have h : ∀ m, NumTold s.data.toList m true → Vl.right 1 m [] = true → Vl.pars s.data.toList = some (1, m, []) := fun m h1 h2 => num_yes h1 h2
    exact h
  have HN : Hid (∀ m ok, NumTold s.data.toList m ok → (ok = false ∨ Vl.right 1 m [] = false) → Vl.pars s.data.toList = none) := by
    have h : ∀ m ok, NumTold s.data.toList m ok → (ok = false ∨ Vl.right 1 m [] = false) → Vl.pars s.data.toList = none := fun m ok h1 h2 => num_no h1 n1 n2 n3 h2
    exact h
  have C42 := fun w => refNumber_any s w hs
  have Z := VAt.new w 0 0 []
  clear n1 n2 n3
  have D' : ((s.size : Int) == 0) = true ∨ (((s.size : Int) == 0) = false ∧ ∃ h : 0 < s.size, ((s[0].toNat : Int) == 34) = false) := by
    rcases D with h | ⟨h, e⟩
    · left; rw [h]; rfl
    · right; exact ⟨beq_eq_false_iff_ne.2 (by omega), h, beq_eq_false_iff_ne.2 (by omega)⟩
  clear D
  rcases D' with d | ⟨d, h0, d2⟩
  all_goals
    go_enter Tryd.func17, Tryd.ntmps17
    go_wp2_with (go_at_call 42; refine (C42 _).mono ?_)
    rintro e w1 ⟨⟨m, ok, rfl, ht⟩, hb1⟩
    have B1 := bchain (below_new w (valO 0 0 [])) hb1
    have Z1 := (Z.on hb1).on (below_new w1 (valO 1 m []))
    have V1 := VAt.new w1 1 m []
    have B1' := bchain B1 (below_new w1 (valO 1 m []))
    cases ok with
    | false =>
      have HP : Hid (Vl.pars s.data.toList = none) := by
        have h := HN.out m false ht (.inl rfl)
        exact h
      clear ht
      have z0 := Z1.c0
      have z1 := Z1.c1
      have z2 := Z1.c2
      have y0 := Z1.f0
      have y1 := Z1.f1
      have y2 := Z1.f2
      go_wp2
      have R := Z1.set 0 0 []
      exact bodyPost_ret (v := .tuple #[valV 0 0 [], .bool false]) (by simp [results, Tryd.results17, go_sem, R.c0, R.c1, R.c2]) rfl ⟨par_no HP.out, below_set3 B1' (Nat.le_refl _) _ _ _⟩
    | true =>
      have C9 := fun w => refRight_any 1 m [] w (by simp)
      cases hr : Vl.right 1 m [] with
      | false =>
        rw [hr] at C9
        have HP : Hid (Vl.pars s.data.toList = none) := by
          have h := HN.out m true ht (.inr hr)
          exact h
        clear ht hr
        go_wp2_with (go_at_call 9; (with_reducible refine (C9 _).mono ?_); rintro e w2 ⟨rfl, hb2⟩; have Z2 := Z1.on hb2; have z0 := Z2.c0; have z1 := Z2.c1; have z2 := Z2.c2; have y0 := Z2.f0; have y1 := Z2.f1; have y2 := Z2.f2)
        have R := Z2.set 0 0 []
        exact bodyPost_ret (v := .tuple #[valV 0 0 [], .bool false]) (by simp [results, Tryd.results17, go_sem, R.c0, R.c1, R.c2]) rfl ⟨par_no HP.out, below_set3 (bchain B1' hb2) (Nat.le_refl _) _ _ _⟩
      | true =>
        rw [hr] at C9
        have HP : Hid (Vl.pars s.data.toList = some (1, m, [])) := by
          have h := HY.out m ht hr
          exact h
        clear ht hr
        go_wp2_with (go_at_call 9; (with_reducible refine (C9 _).mono ?_); rintro e w2 ⟨rfl, hb2⟩; have Z2 := Z1.on hb2; have z0 := Z2.c0; have z1 := Z2.c1; have z2 := Z2.c2; have y0 := Z2.f0; have y1 := Z2.f1; have y2 := Z2.f2; have V2 := V1.on hb2; have v0 := V2.c0; have v1 := V2.c1; have v2 := V2.c2)
        have R := Z2.set 1 m []
        exact bodyPost_ret (v := .tuple #[valV 1 m [], .bool true]) (by simp [results, Tryd.results17, go_sem, R.c0, R.c1, R.c2]) rfl ⟨par_yes HP.out, below_set3 (bchain B1' hb2) (Nat.le_refl _) _ _ _⟩
end Go.Proofs.YthphoclfoejbfaaDoor
