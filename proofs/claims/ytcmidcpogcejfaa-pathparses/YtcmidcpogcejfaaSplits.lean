/- The walks of the two 'Split'. -/
import Derived.Test.YtcmidcpogcejfaaQuotes
namespace Go.Proofs.Ytcmidcpogcejfaa.U
open Go.RowKit

/-! ### A builder beside texts of the call's own -/
theorem own_others {w w' : World} {B b : Nat} {v : Value} {n : Nat} {xs bs : List Value} (h : w.ownsRow B 9 1 v n xs) (hI : Lib.IsBuilderF 70 5 B b bs w) (hk : Lib.OthersKept 5 (some b) w w') : w'.ownsRow B 9 1 v n xs := by
  refine ⟨h.1, ?_⟩
  rcases h.2 with hn | ⟨g, cap, cur, hv, hbg, hg, r⟩
  · exact .inl hn
  · refine .inr ⟨g, cap, cur, hv, hbg, hk g _ hg ?_ ?_, r⟩
    · intro e
      have e1 : g = b := Option.some.inj e
      obtain ⟨p, hA⟩ : ∃ p, Lib.BuilderAtF 70 5 B b p bs w := by
        rcases hI with h | h
        · exact ⟨_, h⟩
        · exact ⟨_, h⟩
      obtain ⟨_, u, hb, _⟩ := hA
      rw [e1, hb] at hg
      injection hg with hg
      injection hg with _ h2 _
      exact absurd h2 (by decide)
    · intro c fz e
      injection e with _ h2 _
      exact absurd h2 (by decide)
theorem at_grown {wr w1 : World} {B b : Nat} {p v : Value} {n : Nat} {xs bs : List Value} {o : Obj} (hA : Lib.BuilderAtF 70 5 B b p bs wr) (hown : wr.ownsRow B 9 1 v n xs) (hgrow : (wr.alloc o).grownBy w1 v.ownBlock) : Lib.BuilderAtF 70 5 B b p bs w1 := by
  obtain ⟨hB, u, hb, hu, hne⟩ := hA
  have kept : ∀ (g : Nat) (c : Array Value) (T : TypeId) (fz : Nat × Nat), wr.heap[g]? = some (.cells c T fz) → T ≠ 9 → w1.heap[g]? = some (.cells c T fz) := by
    intro g c T fz hg hT
    have hlt := heap_lt hg
    rw [hgrow.block g (by simp; omega) ?_, Lib.alloc_old wr _ g hlt]
    · exact hg
    · intro e
      rcases hown.2 with ⟨rfl, _⟩ | ⟨g2, cap, cur, rfl, _, hg2, _⟩
      · simp [Value.ownBlock] at e
      · simp only [Value.ownBlock, Option.some.injEq] at e
        rw [← e, hg] at hg2
        injection hg2 with hg2
        injection hg2 with _ h2 _
        exact hT h2
  refine ⟨hB, u, kept b _ _ _ hb (by decide), ⟨hu.1, ?_⟩, hne⟩
  rcases hu.2 with hn | ⟨g, cap, cur, fz, hv, hbg, hg, r⟩
  · exact .inl hn
  · exact .inr ⟨g, cap, cur, fz, hv, hbg, kept g _ _ _ hg (by decide), r⟩
theorem builder_grown {wr w1 : World} {B b : Nat} {v : Value} {n : Nat} {xs bs : List Value} {o : Obj} (hI : Lib.IsBuilderF 70 5 B b bs wr) (hown : wr.ownsRow B 9 1 v n xs) (hgrow : (wr.alloc o).grownBy w1 v.ownBlock) : Lib.IsBuilderF 70 5 B b bs w1 :=
  hI.elim (fun x => .inl (at_grown x hown hgrow)) (fun x => .inr (at_grown x hown hgrow))

/-! ### Split, byte by byte -/
/-- Where a walk through the bytes stands. -/
def spAt (l : List UInt8) (pos : Nat) (outs : List (List UInt8)) (word : List UInt8) : Prop := pos ≤ l.length ∧ word.length ≤ pos ∧ outs.length ≤ pos ∧ Nm.split l = Nm.sp (l.drop pos) false outs word
theorem spAt_zero (l : List UInt8) : spAt l 0 [] [] := ⟨by omega, by simp, by simp, by simp [Nm.split]⟩
theorem sp_slash (r : List UInt8) (outs : List (List UInt8)) (word : List UInt8) : Nm.sp (47 :: r) false outs word = Nm.sp r false (outs ++ [word]) [] := by
  rw [Nm.sp, if_neg (by decide), if_pos rfl]
theorem sp_esc (r : List UInt8) (outs : List (List UInt8)) (word : List UInt8) : Nm.sp (92 :: r) false outs word = Nm.sp r true outs word := by
  rw [Nm.sp, if_pos rfl]
theorem sp_other {b : UInt8} (r : List UInt8) (outs : List (List UInt8)) (word : List UInt8) (h : Nm.isQ b = false) : Nm.sp (b :: r) false outs word = Nm.sp r false outs (word ++ [b]) := by
  simp only [Nm.isQ, Bool.or_eq_false_iff, beq_eq_false_iff_ne] at h
  rw [Nm.sp, if_neg h.2, if_neg h.1]
theorem sp_escaped {b : UInt8} (r : List UInt8) (outs : List (List UInt8)) (word : List UInt8) (h : Nm.isQ b = true) : Nm.sp (b :: r) true outs word = Nm.sp r false outs (word ++ [b]) := by
  rw [Nm.sp, if_pos h]
theorem sp_wrong {b : UInt8} (r : List UInt8) (outs : List (List UInt8)) (word : List UInt8) (h : Nm.isQ b = false) : Nm.sp (b :: r) true outs word = none := by
  rw [Nm.sp, if_neg (by rw [h]; simp)]
theorem byte_of {b c : UInt8} (h : b.toNat = c.toNat) : b = c := UInt8.toNat_inj.1 h

theorem spAt_slash {s : ByteArray} {pos : Nat} {outs : List (List UInt8)} {word : List UInt8} (h : spAt s.data.toList pos outs word) (hp : pos < s.size) (hb : s[pos].toNat = 47) : spAt s.data.toList (pos + 1) (outs ++ [word]) [] := by
  obtain ⟨a1, a2, a3, a4⟩ := h
  have e : s[pos] = 47 := byte_of hb
  exact ⟨by rw [size_len]; omega, by simp, by simp; omega, by rw [a4, drop_cons hp, e, sp_slash]⟩
theorem spAt_other {s : ByteArray} {pos : Nat} {outs : List (List UInt8)} {word : List UInt8} (h : spAt s.data.toList pos outs word) (hp : pos < s.size) (hb : Nm.isQ s[pos] = false) : spAt s.data.toList (pos + 1) outs (word ++ [s[pos]]) := by
  obtain ⟨a1, a2, a3, a4⟩ := h
  exact ⟨by rw [size_len]; omega, by simp; omega, by omega, by rw [a4, drop_cons hp, sp_other _ _ _ hb]⟩
theorem spAt_esc {s : ByteArray} {pos : Nat} {outs : List (List UInt8)} {word : List UInt8} (h : spAt s.data.toList pos outs word) (hp : pos + 1 < s.size) (hb : s[pos].toNat = 92) (hq : Nm.isQ s[pos + 1] = true) : spAt s.data.toList (pos + 1 + 1) outs (word ++ [s[pos + 1]]) := by
  obtain ⟨a1, a2, a3, a4⟩ := h
  have e : s[pos] = 92 := byte_of hb
  exact ⟨by rw [size_len]; omega, by simp; omega, by omega, by rw [a4, drop_cons (by omega : pos < s.size), e, sp_esc, drop_cons hp, sp_escaped _ _ _ hq]⟩
theorem spAt_wrong {s : ByteArray} {pos : Nat} {outs : List (List UInt8)} {word : List UInt8} (h : spAt s.data.toList pos outs word) (hp : pos + 1 < s.size) (hb : s[pos].toNat = 92) (hq : Nm.isQ s[pos + 1] = false) : Nm.split s.data.toList = none := by
  obtain ⟨a1, a2, a3, a4⟩ := h
  have e : s[pos] = 92 := byte_of hb
  rw [a4, drop_cons (by omega : pos < s.size), e, sp_esc, drop_cons hp, sp_wrong _ _ _ hq]
theorem spAt_last {s : ByteArray} {pos : Nat} {outs : List (List UInt8)} {word : List UInt8} (h : spAt s.data.toList pos outs word) (hp : pos < s.size) (hl : ¬ pos + 1 < s.size) (hb : s[pos].toNat = 92) : Nm.split s.data.toList = none := by
  obtain ⟨a1, a2, a3, a4⟩ := h
  have e : s[pos] = 92 := byte_of hb
  rw [a4, drop_cons hp, e, sp_esc, drop_nil hl, Nm.sp]
theorem spAt_end {s : ByteArray} {pos : Nat} {outs : List (List UInt8)} {word : List UInt8} (h : spAt s.data.toList pos outs word) (hp : ¬ pos < s.size) : Nm.split s.data.toList = some (outs ++ [word]) := by
  obtain ⟨a1, a2, a3, a4⟩ := h
  rw [a4, drop_nil hp, Nm.sp]

/-- What the two tell. -/
def splitL (l : List UInt8) : List (List UInt8) := (Nm.split l).getD []
def splitOk (l : List UInt8) : Bool := (Nm.split l).isSome
theorem splitL_none {l : List UInt8} (h : Nm.split l = none) : splitL l = [] ∧ splitOk l = false := by simp [splitL, splitOk, h]
theorem splitL_some {l : List UInt8} {x : List (List UInt8)} (h : Nm.split l = some x) : splitL l = x ∧ splitOk l = true := by simp [splitL, splitOk, h]

theorem index_next (s : ByteArray) (pos : Nat) (h : pos + 1 < s.size) : ∀ wx, (Instr.index 9 (.string s) (.int .i64 ((pos : Int) + 1))).run Try.prog wx = .ok (.int .u8 (s[pos + 1].toNat : Int)) wx := by
  intro wx
  have h1 := run_index_string (P := Try.prog) wx 9 s .i64 (((pos + 1 : Nat)) : Int) Try.underlying9
  rw [show ((pos : Int) + 1) = ((pos + 1 : Nat) : Int) from rfl]
  rw [h1, dif_pos ⟨by omega, by omega⟩]
  rfl

theorem slice_next (s : ByteArray) (a : Nat) (h : a + 1 < s.size) : ∀ wx, (Instr.slice 9 (.string s) (some (.int .i64 ((a : Int) + 1))) (some (.int .i64 ((a : Int) + 1 + 1))) none).run Try.prog wx = .ok (.string ⟨#[s[a + 1]]⟩) wx := by
  intro wx
  have h1 := slice_one s (a + 1) h wx
  exact h1

set_option maxRecDepth 20000 in
set_option maxHeartbeats 4000000 in
theorem refSplit_any (s : ByteArray) (w : World) (hs : s.size ≤ 2000000) :
    Calls Try.prog 47 #[.string s] w fun e w' => ∃ v, e = .returned (.tuple #[v, .bool (splitOk s.data.toList)]) ∧ strsAt w' v (splitL s.data.toList) ∧ Below w.heap.size w w' := by
  obtain ⟨i0, hi, hz0, hz1, hz2⟩ := info_parts info9
  go_enter Try.func47, Try.ntmps47
  go_wp2
  go_loopw [4, 5, 6] (fun v x i wr => ∃ (pos : Nat) (outs : List (List UInt8)) (word : List UInt8), x = .string ⟨word.toArray⟩ ∧ i = .int .i64 pos ∧ wr.ownsRow w.heap.size 9 1 v outs.length (cellsS outs) ∧ Below w.heap.size w wr ∧ spAt s.data.toList pos outs word) (fun _ _ i _ => s.size - (intOf i).toNat)
  case atStart => exact ⟨0, [], [], rfl, rfl, World.ownsRow_nil _ _ _ _, Below.refl _ w, spAt_zero _⟩
  case round =>
    obtain ⟨pos, outs, word, rfl, rfl, hown, hbw, hR⟩ := hrel
    have hsz := hbw.size
    have hpl := hR.1
    rw [size_len] at hpl
    have hwl := hR.2.1
    have hol := hR.2.2.1
    by_cases hp : pos < s.size
    · by_cases h47 : s[pos].toNat = 47
      · have HR : Hid (spAt s.data.toList (pos + 1) (outs ++ [word]) []) := by
          have h := spAt_slash hR hp h47
          exact h
        clear hR
        go_wp2_with (first
          | (at_builtin; refine wpList_append_own _ rfl _ _ 22 rfl w.heap.size 9 i0 (.string ⟨#[]⟩) 1 16 Try.underlying22 hi hz0 hz1 hz2 rfl (by decide) _ _ _ rfl (hown.alloc _) ⟨_, 0, none⟩ 1 1 [.string ⟨word.toArray⟩] rfl rfl (one_new5 _ _ _) (one_cellS _) ?c3 ?c4 ?c5 ?_)
          | go_in)
        case c3 => unfold maxLen; omega
        case c4 => omega
        case c5 => simp; omega
        intro v' w1 hown' hgrow _
        have R1 := own_below hown hsz hbw hgrow
        rw [cellsS_snoc] at hown'
        clear hgrow hown
        go_wp2
        go_roundw
        case rel => exact ⟨pos + 1, outs ++ [word], [], rfl, by go_num, by simpa using hown', R1, HR.out⟩
        case measure => simp [intOf]; omega
      · have q1 : ((s[pos].toNat : Int) == 47) = false := beq_eq_false_iff_ne.2 (by omega)
        by_cases h92 : s[pos].toNat = 92
        · by_cases hl : pos + 1 < s.size
          · have hp1 : ((pos : Int) + 1 == (s.size : Int)) = false := beq_eq_false_iff_ne.2 (by omega)
            have hix := index_next s pos hl
            cases hq : Nm.isQ s[pos + 1] with
            | false =>
              have HL : Hid (splitL s.data.toList = [] ∧ splitOk s.data.toList = false) := by
                have h := splitL_none (spAt_wrong hR hl h92 hq)
                exact h
              clear hR
              rw [isQ_nat] at hq
              simp only [isQN, Bool.or_eq_false_iff, beq_eq_false_iff_ne] at hq
              have q3 : ¬ (s[pos + 1].toNat : Int) = 47 := by have := hq.1; omega
              have q4 : ¬ (s[pos + 1].toNat : Int) = 92 := by have := hq.2; omega
              have q5 : ((s[pos + 1].toNat : Int) != 47) = true := bne_iff_ne.2 q3
              have q6 : ((s[pos + 1].toNat : Int) != 92) = true := bne_iff_ne.2 q4
              clear hq
              generalize s[pos + 1].toNat = y at *
              go_wp2
              go_ret2
              exact ⟨_, ret_two HL.out.2.symm, by rw [HL.out.1]; exact strsAt_nil _, hbw⟩
            | true =>
              have HA : Hid ((⟨word.toArray⟩ : ByteArray) ++ ⟨#[s[pos + 1]]⟩ = ⟨(word ++ [s[pos + 1]]).toArray⟩) := app_bytes word _
              have HR : Hid (spAt s.data.toList (pos + 1 + 1) outs (word ++ [s[pos + 1]])) := by
                have h := spAt_esc hR hl h92 hq
                exact h
              clear hR
              rw [isQ_nat] at hq
              simp only [isQN, Bool.or_eq_true, beq_iff_eq] at hq
              have hsl2 := slice_next s pos hl
              generalize s[pos + 1] = y at *
              rcases hq with hq | hq
              · rw [hq] at hix
                go_wp2
                go_roundw
                case rel => exact ⟨pos + 1 + 1, outs, _, by rw [← HA.out], by go_num, hown, hbw, HR.out⟩
                case measure => simp [intOf]; omega
              · rw [hq] at hix
                go_wp2
                go_roundw
                case rel => exact ⟨pos + 1 + 1, outs, _, by rw [← HA.out], by go_num, hown, hbw, HR.out⟩
                case measure => simp [intOf]; omega
          · have HL : Hid (splitL s.data.toList = [] ∧ splitOk s.data.toList = false) := by
              have h := splitL_none (spAt_last hR hp hl h92)
              exact h
            clear hR
            have hp1 : ((pos : Int) + 1 == (s.size : Int)) = true := beq_iff_eq.2 (by omega)
            go_wp2
            go_ret2
            exact ⟨_, ret_two HL.out.2.symm, by rw [HL.out.1]; exact strsAt_nil _, hbw⟩
        · have q2 : ((s[pos].toNat : Int) == 92) = false := beq_eq_false_iff_ne.2 (by omega)
          have hsl := slice_one s pos hp
          have HA : Hid ((⟨word.toArray⟩ : ByteArray) ++ ⟨#[s[pos]]⟩ = ⟨(word ++ [s[pos]]).toArray⟩) := app_bytes word _
          have HR : Hid (spAt s.data.toList (pos + 1) outs (word ++ [s[pos]])) := by
            have h := spAt_other hR hp (by rw [isQ_nat]; simp [isQN, h47, h92])
            exact h
          clear hR
          go_wp2
          go_roundw
          case rel => exact ⟨pos + 1, outs, _, by rw [← HA.out], by go_num, hown, hbw, HR.out⟩
          case measure => simp [intOf]; omega
    · have HL : Hid (splitL s.data.toList = outs ++ [word] ∧ splitOk s.data.toList = true) := by
        have h := splitL_some (spAt_end hR hp)
        exact h
      clear hR
      go_wp2_with (first
        | (at_builtin; refine wpList_append_own _ rfl _ _ 22 rfl w.heap.size 9 i0 (.string ⟨#[]⟩) 1 16 Try.underlying22 hi hz0 hz1 hz2 rfl (by decide) _ _ _ rfl (hown.alloc _) ⟨_, 0, none⟩ 1 1 [.string ⟨word.toArray⟩] rfl rfl (one_new5 _ _ _) (one_cellS _) ?c3 ?c4 ?c5 ?_)
        | go_in)
      case c3 => unfold maxLen; omega
      case c4 => omega
      case c5 => simp; omega
      intro v' w1 hown' hgrow _
      have R1 := own_below hown hsz hbw hgrow
      rw [cellsS_snoc] at hown'
      clear hgrow hown
      go_wp2
      go_ret2
      exact ⟨_, ret_two HL.out.2.symm, by rw [HL.out.1]; exact strsAt_own (by simpa using hown'), R1⟩

/-! ### Split, character by character -/
/-- Where a walk through the characters stands. -/
def splAt (l : List UInt8) (pos fr : Nat) (esc : Bool) (outs : List (List UInt8)) (acc : List UInt8) : Prop := fr ≤ pos ∧ pos ≤ l.length ∧ acc.length + (pos - fr) ≤ pos ∧ outs.length ≤ pos ∧ Nm.split l = Nm.sp (l.drop pos) esc outs (acc ++ (l.take pos).drop fr)
theorem splAt_zero (l : List UInt8) : splAt l 0 0 false [] [] := ⟨by omega, by omega, by simp, by simp, by simp [Nm.split]⟩
theorem splAt_wrong {l : List UInt8} {pos fr : Nat} {outs : List (List UInt8)} {acc : List UInt8} (h : splAt l pos fr true outs acc) (hne : l.drop pos ≠ []) (hq : isQN (Lib.decodeL (l.drop pos)).1 = false) : Nm.split l = none := by
  have h1 := isQN_none hne hq
  have h2 := Lib.decodeL_width (l.drop pos)
  obtain ⟨_, _, _, _, a5⟩ := h
  rw [a5]
  cases hd : l.drop pos with
  | nil => exact absurd hd hne
  | cons b t =>
    apply sp_wrong
    apply h1
    rw [hd] at h2 ⊢
    obtain ⟨m, hm⟩ : ∃ m, (Lib.decodeL (b :: t)).2 = m + 1 := ⟨(Lib.decodeL (b :: t)).2 - 1, by omega⟩
    rw [hm]
    simp
theorem front_take {l : List UInt8} {pos : Nat} {b : UInt8} {t : List UInt8} (h : l.drop pos = b :: t) (hp : pos ≤ l.length) (fr : Nat) (hf : fr ≤ pos) : l.drop (pos + 1) = t ∧ (l.take (pos + 1)).drop fr = (l.take pos).drop fr ++ [b] ∧ pos + 1 ≤ l.length := by
  refine ⟨by rw [← List.drop_drop, h]; rfl, by rw [take_chunk l hf hp, h]; rfl, ?_⟩
  have := congrArg List.length h
  rw [List.length_drop, List.length_cons] at this
  omega
theorem splAt_escaped {l : List UInt8} {pos fr : Nat} {outs : List (List UInt8)} {acc : List UInt8} (h : splAt l pos fr true outs acc) (hne : l.drop pos ≠ []) (hq : isQN (Lib.decodeL (l.drop pos)).1 = true) : splAt l (pos + (Lib.decodeL (l.drop pos)).2) fr false outs acc := by
  obtain ⟨b, t, e1, e2, e3, _⟩ := isQN_byte hne hq
  obtain ⟨a1, a2, a3, a4, a5⟩ := h
  obtain ⟨f1, f2, f3⟩ := front_take e1 a2 fr a1
  rw [e3]
  refine ⟨by omega, f3, by omega, by omega, ?_⟩
  rw [a5, f1, f2, e1, sp_escaped _ _ _ e2]
  simp
theorem splAt_plain {l : List UInt8} {pos fr : Nat} {outs : List (List UInt8)} {acc : List UInt8} (h : splAt l pos fr false outs acc) (hne : l.drop pos ≠ []) (hq : isQN (Lib.decodeL (l.drop pos)).1 = false) : splAt l (pos + (Lib.decodeL (l.drop pos)).2) fr false outs acc := by
  have h1 := Lib.decodeL_le _ hne
  rw [List.length_drop] at h1
  obtain ⟨a1, a2, a3, a4, a5⟩ := h
  refine ⟨by omega, by omega, by omega, by omega, ?_⟩
  rw [take_chunk l a1 a2, a5]
  conv => lhs; rw [← List.take_append_drop (Lib.decodeL (l.drop pos)).2 (l.drop pos)]
  rw [Nm.sp_plain (isQN_none hne hq), List.drop_drop]
  simp
theorem splAt_esc {l : List UInt8} {pos fr : Nat} {outs : List (List UInt8)} {acc : List UInt8} (h : splAt l pos fr false outs acc) (hne : l.drop pos ≠ []) (hq : (Lib.decodeL (l.drop pos)).1 = 92) : splAt l (pos + (Lib.decodeL (l.drop pos)).2) (pos + 1) true outs (acc ++ (l.take pos).drop fr) := by
  obtain ⟨b, t, e1, e2, e3, e4⟩ := isQN_byte hne (by rw [hq]; rfl)
  obtain ⟨a1, a2, a3, a4, a5⟩ := h
  obtain ⟨f1, f2, f3⟩ := front_take e1 a2 fr a1
  have eb : b = 92 := byte_of (by rw [e4, hq]; rfl)
  rw [e3]
  refine ⟨by omega, f3, ?_, by omega, ?_⟩
  · rw [List.length_append, List.length_drop, List.length_take]; omega
  · have f5 : (l.take (pos + 1)).drop (pos + 1) = [] := List.drop_eq_nil_of_le (by simp; omega)
    rw [a5, f1, f5, e1, eb, sp_esc]
    simp
theorem splAt_slash {l : List UInt8} {pos fr : Nat} {outs : List (List UInt8)} {acc : List UInt8} (h : splAt l pos fr false outs acc) (hne : l.drop pos ≠ []) (hq : (Lib.decodeL (l.drop pos)).1 = 47) : splAt l (pos + (Lib.decodeL (l.drop pos)).2) (pos + 1) false (outs ++ [acc ++ (l.take pos).drop fr]) [] := by
  obtain ⟨b, t, e1, e2, e3, e4⟩ := isQN_byte hne (by rw [hq]; rfl)
  obtain ⟨a1, a2, a3, a4, a5⟩ := h
  obtain ⟨f1, f2, f3⟩ := front_take e1 a2 fr a1
  have eb : b = 47 := byte_of (by rw [e4, hq]; rfl)
  rw [e3]
  refine ⟨by omega, f3, by simp, by simp; omega, ?_⟩
  have f5 : (l.take (pos + 1)).drop (pos + 1) = [] := List.drop_eq_nil_of_le (by simp; omega)
  rw [a5, f1, f5, e1, eb, sp_slash]
  simp
theorem splAt_end {l : List UInt8} {pos fr : Nat} {esc : Bool} {outs : List (List UInt8)} {acc : List UInt8} (h : splAt l pos fr esc outs acc) (hn : l.drop pos = []) : Nm.split l = if esc = true then none else some (outs ++ [acc ++ l.drop fr]) := by
  obtain ⟨a1, a2, a3, a4, a5⟩ := h
  have : pos = l.length := by
    have := congrArg List.length hn
    rw [List.length_drop] at this
    simp at this
    omega
  rw [a5, hn, this, List.take_length]
  cases esc <;> rfl

set_option maxRecDepth 100000 in
set_option maxHeartbeats 8000000 in
theorem split_any (s : ByteArray) (w : World) (hs : s.size ≤ 2000000) :
    Calls Try.prog 46 #[.string s] w fun e w' => ∃ v, e = .returned (.tuple #[v, .bool (splitOk s.data.toList)]) ∧ strsAt w' v (splitL s.data.toList) ∧ Below w.heap.size w w' := by
  obtain ⟨i0, hi, hz0, hz1, hz2⟩ := info_parts info9
  go_enter Try.func46, Try.ntmps46
  go_wp2
  go_loopw [4, 6, 7] (fun v f x wr => ∃ (pos fr : Nat) (esc : Bool) (outs : List (List UInt8)) (acc : List UInt8), f = .int .i64 fr ∧ x = .bool esc ∧ wr.ownsRow w.heap.size 9 1 v outs.length (cellsS outs) ∧ Lib.IsBuilderF 70 5 w.heap.size w.heap.size (Lib.byteCells acc) wr ∧ wr.heap[w.heap.size + 1]? = some (.stringIter s pos) ∧ Below w.heap.size w wr ∧ splAt s.data.toList pos fr esc outs acc) (fun _ _ _ wr => s.size - wr.iterPos (w.heap.size + 1))
  case atStart =>
    refine ⟨0, 0, false, [], [], rfl, rfl, World.ownsRow_nil _ _ _ _, (Lib.IsBuilderF.of (Lib.fresh_isBuilder 70 5 w)).alloc _, ?_, ((Below.refl _ w).alloc (Nat.le_refl _) _).alloc (by simp) _, splAt_zero _⟩
    have := World.iter_heap (w.alloc (.cells #[.pointer none, .slice none 0 0] 70)) s 0
    simpa using this
  case round =>
    obtain ⟨pos, fr, esc, outs, acc, rfl, rfl, hown, hI, hit, hbw, hR⟩ := hrel
    have hsz : w.heap.size + 1 < wr.heap.size := heap_lt hit
    have hfr := hR.1
    have hpl := hR.2.1
    rw [size_len] at hpl
    have hal := hR.2.2.1
    have hol := hR.2.2.2.1
    by_cases hp : pos < s.size
    · have hnx : ∀ ty, (Instr.next (.pointer (some ⟨w.heap.size + 1, 0, none⟩)) true ty).run Try.prog wr = _ := fun ty => Lib.run_next_any_at wr (w.heap.size + 1) s pos ty hit hp
      have HE : Hid (s.data.toList.drop pos ≠ []) := drop_ne hp
      have HD : Hid (Lib.decodeL (s.data.toList.drop pos) = Utf8.decode s pos) := Lib.decodeL_drop s pos
      have hd1 := decode_le s pos
      have hwd : 1 ≤ (Utf8.decode s pos).2 := by rw [← HD.out]; exact Lib.decodeL_width _
      have hown2 := own_iterAt hown hit (pos + (Utf8.decode s pos).2)
      have hI2 := hI.iterAt hit (pos + (Utf8.decode s pos).2)
      have hit2 := Lib.iterAt_heap wr (w.heap.size + 1) s pos (pos + (Utf8.decode s pos).2) hit
      have hbw2 := Lib.below_iterAt hbw (k := w.heap.size + 1) (by omega) s (pos + (Utf8.decode s pos).2)
      have hsz2 : w.heap.size ≤ (wr.iterAt (w.heap.size + 1) s (pos + (Utf8.decode s pos).2)).heap.size := by rw [Lib.iterAt_size]; omega
      cases esc with
      | true =>
        have HQ := isQuoted_any (Utf8.decode s pos).1
        cases hq : isQN (Utf8.decode s pos).1 with
        | false =>
          rw [hq] at HQ
          have HL : Hid (splitL s.data.toList = [] ∧ splitOk s.data.toList = false) := by
            have h := splitL_none (splAt_wrong hR HE.out (by rw [HD.out]; exact hq))
            exact h
          clear hR
          go_wp2_with (first | (go_at_call 64; refine (HQ _ hd1).mono ?_; rintro e W1 ⟨rfl, rfl⟩) | go_in)
          go_ret2
          exact ⟨_, ret_two HL.out.2.symm, by rw [HL.out.1]; exact strsAt_nil _, hbw2⟩
        | true =>
          rw [hq] at HQ
          have HR : Hid (splAt s.data.toList (pos + (Utf8.decode s pos).2) fr false outs acc) := by
            have h := splAt_escaped hR HE.out (by rw [HD.out]; exact hq)
            rw [HD.out] at h
            exact h
          clear hR
          go_wp2_with (first | (go_at_call 64; refine (HQ _ hd1).mono ?_; rintro e W1 ⟨rfl, rfl⟩) | go_in)
          go_roundw
          case rel => exact ⟨_, fr, false, outs, acc, rfl, rfl, hown2, hI2, hit2, hbw2, HR.out⟩
          case measure =>
            simp only [World.iterPos, hit2, hit]
            omega
      | false =>
        have HX : Hid (Lib.strCells (s.extract fr pos) = Lib.byteCells ((s.data.toList.take pos).drop fr)) := by
          have h : Lib.strCells (s.extract fr pos) = Lib.byteCells ((s.data.toList.take pos).drop fr) := by rw [Lib.strCells_eq, extract_mid s]
          exact h
        by_cases h92 : (Utf8.decode s pos).1 = 92
        · have HR : Hid (splAt s.data.toList (pos + (Utf8.decode s pos).2) (pos + 1) true outs (acc ++ (s.data.toList.take pos).drop fr)) := by
            have h := splAt_esc hR HE.out (by rw [HD.out]; exact h92)
            rw [HD.out] at h
            exact h
          clear hR
          go_wp2_with (first
            | (go_at_call 62; refine (writeString_any w.heap.size w.heap.size _ (s.extract fr pos) _ hI2 (by rw [Lib.byteCells_length, ByteArray.size_extract]; omega) hsz2).mono ?_)
            | go_in)
          rintro e W1 ⟨rfl, h1, b1, k1⟩
          rw [HX.out, ← Lib.byteCells_append] at h1
          have hit3 := k1.iter hit2 (by omega)
          have hown3 := own_others hown2 hI2 k1
          go_wp2
          go_roundw
          case rel => exact ⟨_, pos + 1, true, outs, _, by go_num, rfl, hown3, h1, hit3, hbw2.trans b1, HR.out⟩
          case measure =>
            simp only [World.iterPos, hit3, hit]
            omega
        · by_cases h47 : (Utf8.decode s pos).1 = 47
          · have HR : Hid (splAt s.data.toList (pos + (Utf8.decode s pos).2) (pos + 1) false (outs ++ [acc ++ (s.data.toList.take pos).drop fr]) []) := by
              have h := splAt_slash hR HE.out (by rw [HD.out]; exact h47)
              rw [HD.out] at h
              exact h
            clear hR
            go_wp2_with (first
              | (go_at_call 62; refine (writeString_any w.heap.size w.heap.size _ (s.extract fr pos) _ hI2 (by rw [Lib.byteCells_length, ByteArray.size_extract]; omega) hsz2).mono ?_)
              | go_in)
            rintro e W1 ⟨rfl, h1, b1, k1⟩
            rw [HX.out, ← Lib.byteCells_append] at h1
            have hit3 := k1.iter hit2 (by omega)
            have hown3 := own_others hown2 hI2 k1
            have hsz3 : w.heap.size ≤ W1.heap.size := Nat.le_trans hsz2 b1.size
            go_wp2_with (first
              | (go_at_call 63; refine (bString w.heap.size w.heap.size _ _ h1 hsz3).mono ?_)
              | go_in)
            rintro e W2 ⟨rfl, h2, b2, k2⟩
            have hit4 := k2.iter hit3 (by omega)
            have hown4 := own_others hown3 h1 k2
            have hsz4 : w.heap.size ≤ W2.heap.size := Nat.le_trans hsz3 b2.size
            have hb4 := (hbw2.trans b1).trans b2
            clear hown3 hown2 hown h1 hI2 hI hbw2 hbw b1 b2 k1 k2 hit3
            generalize acc ++ (s.data.toList.take pos).drop fr = word at *
            go_wp2_with (first
              | (at_builtin; refine wpList_append_own _ rfl _ _ 22 rfl w.heap.size 9 i0 (.string ⟨#[]⟩) 1 16 Try.underlying22 hi hz0 hz1 hz2 rfl (by decide) _ _ _ rfl (hown4.alloc _) ⟨_, 0, none⟩ 1 1 [.string ⟨word.toArray⟩] rfl rfl (one_new5 _ _ _) (one_cellS _) ?c3 ?c4 ?c5 ?_)
              | go_in)
            case c3 => unfold maxLen; omega
            case c4 => omega
            case c5 => simp; omega
            intro v' w1 hown' hgrow _
            have R1 := own_below hown4 hsz4 hb4 hgrow
            have R2 := own_iter hown4 hgrow hit4
            have R3 := builder_grown h2 hown4 hgrow
            rw [cellsS_snoc] at hown'
            clear hgrow hown4 h2
            go_wp2_with (first
              | (go_at_call 66; refine (reset_any w.heap.size w.heap.size _ _ R3).mono ?_)
              | go_in)
            rintro e W3 ⟨rfl, h5, b5, k5⟩
            have hit5 := k5.iter R2 (by omega)
            have hown5 := own_others hown' R3 k5
            go_wp2
            go_roundw
            case rel => exact ⟨_, pos + 1, false, _, [], by go_num, rfl, by simpa using hown5, h5, hit5, R1.trans b5, HR.out⟩
            case measure =>
              simp only [World.iterPos, hit5, hit]
              omega
          · have HR : Hid (splAt s.data.toList (pos + (Utf8.decode s pos).2) fr false outs acc) := by
              have h := splAt_plain hR HE.out (by rw [HD.out]; simp [isQN, h47, h92])
              rw [HD.out] at h
              exact h
            clear hR
            go_wp2
            go_roundw
            case rel => exact ⟨_, fr, false, outs, acc, rfl, rfl, hown2, hI2, hit2, hbw2, HR.out⟩
            case measure =>
              simp only [World.iterPos, hit2, hit]
              omega
    · have hnx : ∀ ty, (Instr.next (.pointer (some ⟨w.heap.size + 1, 0, none⟩)) true ty).run Try.prog wr = _ := fun ty => Lib.run_next_end_at wr (w.heap.size + 1) s pos ty hit hp
      cases esc with
      | true =>
        have HL : Hid (splitL s.data.toList = [] ∧ splitOk s.data.toList = false) := by
          have h := splitL_none (splAt_end hR (drop_nil hp))
          exact h
        clear hR
        go_wp2
        go_ret2
        exact ⟨_, ret_two HL.out.2.symm, by rw [HL.out.1]; exact strsAt_nil _, hbw⟩
      | false =>
        have HL : Hid (splitL s.data.toList = outs ++ [acc ++ s.data.toList.drop fr] ∧ splitOk s.data.toList = true) := by
          have h := splitL_some (splAt_end hR (drop_nil hp))
          exact h
        clear hR
        have HX : Hid (Lib.strCells (s.extract fr s.size) = Lib.byteCells (s.data.toList.drop fr)) := by
          have h : Lib.strCells (s.extract fr s.size) = Lib.byteCells (s.data.toList.drop fr) := by rw [Lib.strCells_eq, extract_high]
          exact h
        go_wp2_with (first
          | (go_at_call 62; refine (writeString_any w.heap.size w.heap.size _ (s.extract fr s.size) _ hI (by rw [Lib.byteCells_length, ByteArray.size_extract]; omega) (by omega)).mono ?_)
          | go_in)
        rintro e W1 ⟨rfl, h1, b1, k1⟩
        rw [HX.out, ← Lib.byteCells_append] at h1
        have hown3 := own_others hown hI k1
        have hsz3 : w.heap.size ≤ W1.heap.size := Nat.le_trans (by omega) b1.size
        go_wp2_with (first
          | (go_at_call 63; refine (bString w.heap.size w.heap.size _ _ h1 hsz3).mono ?_)
          | go_in)
        rintro e W2 ⟨rfl, h2, b2, k2⟩
        have hown4 := own_others hown3 h1 k2
        have hsz4 : w.heap.size ≤ W2.heap.size := Nat.le_trans hsz3 b2.size
        have hb4 := (hbw.trans b1).trans b2
        clear hown3 hown h1 hI hbw b1 b2 k1 k2 h2
        generalize acc ++ s.data.toList.drop fr = word at *
        go_wp2_with (first
          | (at_builtin; refine wpList_append_own _ rfl _ _ 22 rfl w.heap.size 9 i0 (.string ⟨#[]⟩) 1 16 Try.underlying22 hi hz0 hz1 hz2 rfl (by decide) _ _ _ rfl (hown4.alloc _) ⟨_, 0, none⟩ 1 1 [.string ⟨word.toArray⟩] rfl rfl (one_new5 _ _ _) (one_cellS _) ?c3 ?c4 ?c5 ?_)
          | go_in)
        case c3 => unfold maxLen; omega
        case c4 => omega
        case c5 => simp; omega
        intro v' w1 hown' hgrow _
        have R1 := own_below hown4 hsz4 hb4 hgrow
        rw [cellsS_snoc] at hown'
        clear hgrow hown4
        go_wp2
        go_ret2
        exact ⟨_, ret_two HL.out.2.symm, by rw [HL.out.1]; exact strsAt_own (by simpa using hown'), R1⟩

end Go.Proofs.Ytcmidcpogcejfaa.U
