/- The walks of the two 'Split'. -/
import Derived.Test.YtghkjbekjkejpaaNamesAll
namespace Go.Proofs.Ytghkjbekjkejpaa.U
open Go.RowKit

/-! ### A builder beside texts of the call's own -/
theorem own_others {w w' : World} {B b : Nat} {v : Value} {n : Nat} {xs bs : List Value} (h : w.ownsRow B 9 1 v n xs) (hI : Lib.IsBuilderF 59 5 B b bs w) (hk : Lib.OthersKept 5 (some b) w w') : w'.ownsRow B 9 1 v n xs := by
  refine ⟨h.1, ?_⟩
  rcases h.2 with hn | ⟨g, cap, cur, hv, hbg, hg, r⟩
  · exact .inl hn
  · refine .inr ⟨g, cap, cur, hv, hbg, hk g _ hg ?_ ?_, r⟩
    · intro e
      have e1 : g = b := Option.some.inj e
      obtain ⟨p, hA⟩ : ∃ p, Lib.BuilderAtF 59 5 B b p bs w := by
        rcases hI with h | h
        · exact ⟨_, h⟩
        · exact ⟨_, h⟩
      obtain ⟨_, u, hb, _⟩ := hA
      rw [e1, hb] at hg
      injection hg with hg
      injection hg with _ h2 _
      exact absurd h2 (by decide)
    · intro c fz e
      injection e with _ h2 _
      exact absurd h2 (by decide)
theorem at_grown {wr w1 : World} {B b : Nat} {p v : Value} {n : Nat} {xs bs : List Value} {o : Obj} (hA : Lib.BuilderAtF 59 5 B b p bs wr) (hown : wr.ownsRow B 9 1 v n xs) (hgrow : (wr.alloc o).grownBy w1 v.ownBlock) : Lib.BuilderAtF 59 5 B b p bs w1 := by
  obtain ⟨hB, u, hb, hu, hne⟩ := hA
  have kept : ∀ (g : Nat) (c : Array Value) (T : TypeId) (fz : Nat × Nat), wr.heap[g]? = some (.cells c T fz) → T ≠ 9 → w1.heap[g]? = some (.cells c T fz) := by
    intro g c T fz hg hT
    have hlt := heap_lt hg
    rw [hgrow.block g (by simp; omega) ?_, Lib.alloc_old wr _ g hlt]
    · exact hg
    · intro e
      rcases hown.2 with ⟨rfl, _⟩ | ⟨g2, cap, cur, rfl, _, hg2, _⟩
      · simp [Value.ownBlock] at e
      · simp only [Value.ownBlock, Option.some.injEq] at e
        rw [← e, hg] at hg2
        injection hg2 with hg2
        injection hg2 with _ h2 _
        exact hT h2
  refine ⟨hB, u, kept b _ _ _ hb (by decide), ⟨hu.1, ?_⟩, hne⟩
  rcases hu.2 with hn | ⟨g, cap, cur, fz, hv, hbg, hg, r⟩
  · exact .inl hn
  · exact .inr ⟨g, cap, cur, fz, hv, hbg, kept g _ _ _ hg (by decide), r⟩
theorem builder_grown {wr w1 : World} {B b : Nat} {v : Value} {n : Nat} {xs bs : List Value} {o : Obj} (hI : Lib.IsBuilderF 59 5 B b bs wr) (hown : wr.ownsRow B 9 1 v n xs) (hgrow : (wr.alloc o).grownBy w1 v.ownBlock) : Lib.IsBuilderF 59 5 B b bs w1 :=
  hI.elim (fun x => .inl (at_grown x hown hgrow)) (fun x => .inr (at_grown x hown hgrow))

/-! ### Split, byte by byte -/
/-- Where a walk through the bytes stands. -/
def spAt (l : List UInt8) (pos : Nat) (outs : List (List UInt8)) (word : List UInt8) : Prop := pos ≤ l.length ∧ word.length ≤ pos ∧ outs.length ≤ pos ∧ Nm.split l = Nm.sp (l.drop pos) false outs word
theorem spAt_zero (l : List UInt8) : spAt l 0 [] [] := ⟨by omega, by simp, by simp, by simp [Nm.split]⟩
theorem sp_slash (r : List UInt8) (outs : List (List UInt8)) (word : List UInt8) : Nm.sp (47 :: r) false outs word = Nm.sp r false (outs ++ [word]) [] := by
  rw [Nm.sp, if_neg (by decide), if_pos rfl]
theorem sp_esc (r : List UInt8) (outs : List (List UInt8)) (word : List UInt8) : Nm.sp (92 :: r) false outs word = Nm.sp r true outs word := by
  rw [Nm.sp, if_pos rfl]
theorem sp_other {b : UInt8} (r : List UInt8) (outs : List (List UInt8)) (word : List UInt8) (h : Nm.isQ b = false) : Nm.sp (b :: r) false outs word = Nm.sp r false outs (word ++ [b]) := by
  simp only [Nm.isQ, Bool.or_eq_false_iff, beq_eq_false_iff_ne] at h
  rw [Nm.sp, if_neg h.2, if_neg h.1]
theorem sp_escaped {b : UInt8} (r : List UInt8) (outs : List (List UInt8)) (word : List UInt8) (h : Nm.isQ b = true) : Nm.sp (b :: r) true outs word = Nm.sp r false outs (word ++ [b]) := by
  rw [Nm.sp, if_pos h]
theorem sp_wrong {b : UInt8} (r : List UInt8) (outs : List (List UInt8)) (word : List UInt8) (h : Nm.isQ b = false) : Nm.sp (b :: r) true outs word = none := by
  rw [Nm.sp, if_neg (by rw [h]; simp)]
theorem byte_of {b c : UInt8} (h : b.toNat = c.toNat) : b = c := UInt8.toNat_inj.1 h

theorem spAt_slash {s : ByteArray} {pos : Nat} {outs : List (List UInt8)} {word : List UInt8} (h : spAt s.data.toList pos outs word) (hp : pos < s.size) (hb : s[pos].toNat = 47) : spAt s.data.toList (pos + 1) (outs ++ [word]) [] := by
  obtain ⟨a1, a2, a3, a4⟩ := h
  have e : s[pos] = 47 := byte_of hb
  exact ⟨by rw [size_len]; omega, by simp, by simp; omega, by rw [a4, drop_cons hp, e, sp_slash]⟩
theorem spAt_other {s : ByteArray} {pos : Nat} {outs : List (List UInt8)} {word : List UInt8} (h : spAt s.data.toList pos outs word) (hp : pos < s.size) (hb : Nm.isQ s[pos] = false) : spAt s.data.toList (pos + 1) outs (word ++ [s[pos]]) := by
  obtain ⟨a1, a2, a3, a4⟩ := h
  exact ⟨by rw [size_len]; omega, by simp; omega, by omega, by rw [a4, drop_cons hp, sp_other _ _ _ hb]⟩
theorem spAt_esc {s : ByteArray} {pos : Nat} {outs : List (List UInt8)} {word : List UInt8} (h : spAt s.data.toList pos outs word) (hp : pos + 1 < s.size) (hb : s[pos].toNat = 92) (hq : Nm.isQ s[pos + 1] = true) : spAt s.data.toList (pos + 1 + 1) outs (word ++ [s[pos + 1]]) := by
  obtain ⟨a1, a2, a3, a4⟩ := h
  have e : s[pos] = 92 := byte_of hb
  exact ⟨by rw [size_len]; omega, by simp; omega, by omega, by rw [a4, drop_cons (by omega : pos < s.size), e, sp_esc, drop_cons hp, sp_escaped _ _ _ hq]⟩
theorem spAt_wrong {s : ByteArray} {pos : Nat} {outs : List (List UInt8)} {word : List UInt8} (h : spAt s.data.toList pos outs word) (hp : pos + 1 < s.size) (hb : s[pos].toNat = 92) (hq : Nm.isQ s[pos + 1] = false) : Nm.split s.data.toList = none := by
  obtain ⟨a1, a2, a3, a4⟩ := h
  have e : s[pos] = 92 := byte_of hb
  rw [a4, drop_cons (by omega : pos < s.size), e, sp_esc, drop_cons hp, sp_wrong _ _ _ hq]
theorem spAt_last {s : ByteArray} {pos : Nat} {outs : List (List UInt8)} {word : List UInt8} (h : spAt s.data.toList pos outs word) (hp : pos < s.size) (hl : ¬ pos + 1 < s.size) (hb : s[pos].toNat = 92) : Nm.split s.data.toList = none := by
  obtain ⟨a1, a2, a3, a4⟩ := h
  have e : s[pos] = 92 := byte_of hb
  rw [a4, drop_cons hp, e, sp_esc, drop_nil hl, Nm.sp]
theorem spAt_end {s : ByteArray} {pos : Nat} {outs : List (List UInt8)} {word : List UInt8} (h : spAt s.data.toList pos outs word) (hp : ¬ pos < s.size) : Nm.split s.data.toList = some (outs ++ [word]) := by
  obtain ⟨a1, a2, a3, a4⟩ := h
  rw [a4, drop_nil hp, Nm.sp]

/-- What the two tell. -/
def splitL (l : List UInt8) : List (List UInt8) := (Nm.split l).getD []
def splitOk (l : List UInt8) : Bool := (Nm.split l).isSome
theorem splitL_none {l : List UInt8} (h : Nm.split l = none) : splitL l = [] ∧ splitOk l = false := by simp [splitL, splitOk, h]
theorem splitL_some {l : List UInt8} {x : List (List UInt8)} (h : Nm.split l = some x) : splitL l = x ∧ splitOk l = true := by simp [splitL, splitOk, h]

theorem index_next (s : ByteArray) (pos : Nat) (h : pos + 1 < s.size) : ∀ wx, (Instr.index 9 (.string s) (.int .i64 ((pos : Int) + 1))).run Try.prog wx = .ok (.int .u8 (s[pos + 1].toNat : Int)) wx := by
  intro wx
  have h1 := run_index_string (P := Try.prog) wx 9 s .i64 (((pos + 1 : Nat)) : Int) Try.underlying9
  rw [show ((pos : Int) + 1) = ((pos + 1 : Nat) : Int) from rfl]
  rw [h1, dif_pos ⟨by omega, by omega⟩]
  rfl

theorem slice_next (s : ByteArray) (a : Nat) (h : a + 1 < s.size) : ∀ wx, (Instr.slice 9 (.string s) (some (.int .i64 ((a : Int) + 1))) (some (.int .i64 ((a : Int) + 1 + 1))) none).run Try.prog wx = .ok (.string ⟨#[s[a + 1]]⟩) wx := by
  intro wx
  have h1 := slice_one s (a + 1) h wx
  exact h1

/-! ### Split, character by character -/
/-- Where a walk through the characters stands. -/
def splAt (l : List UInt8) (pos fr : Nat) (esc : Bool) (outs : List (List UInt8)) (acc : List UInt8) : Prop := fr ≤ pos ∧ pos ≤ l.length ∧ acc.length + (pos - fr) ≤ pos ∧ outs.length ≤ pos ∧ Nm.split l = Nm.sp (l.drop pos) esc outs (acc ++ (l.take pos).drop fr)
theorem splAt_zero (l : List UInt8) : splAt l 0 0 false [] [] := ⟨by omega, by omega, by simp, by simp, by simp [Nm.split]⟩
theorem splAt_wrong {l : List UInt8} {pos fr : Nat} {outs : List (List UInt8)} {acc : List UInt8} (h : splAt l pos fr true outs acc) (hne : l.drop pos ≠ []) (hq : isQN (Lib.decodeL (l.drop pos)).1 = false) : Nm.split l = none := by
  have h1 := isQN_none hne hq
  have h2 := Lib.decodeL_width (l.drop pos)
  obtain ⟨_, _, _, _, a5⟩ := h
  rw [a5]
  cases hd : l.drop pos with
  | nil => exact absurd hd hne
  | cons b t =>
    apply sp_wrong
    apply h1
    rw [hd] at h2 ⊢
    obtain ⟨m, hm⟩ : ∃ m, (Lib.decodeL (b :: t)).2 = m + 1 := ⟨(Lib.decodeL (b :: t)).2 - 1, by omega⟩
    rw [hm]
    simp
theorem front_take {l : List UInt8} {pos : Nat} {b : UInt8} {t : List UInt8} (h : l.drop pos = b :: t) (hp : pos ≤ l.length) (fr : Nat) (hf : fr ≤ pos) : l.drop (pos + 1) = t ∧ (l.take (pos + 1)).drop fr = (l.take pos).drop fr ++ [b] ∧ pos + 1 ≤ l.length := by
  refine ⟨by rw [← List.drop_drop, h]; rfl, by rw [take_chunk l hf hp, h]; rfl, ?_⟩
  have := congrArg List.length h
  rw [List.length_drop, List.length_cons] at this
  omega
theorem splAt_escaped {l : List UInt8} {pos fr : Nat} {outs : List (List UInt8)} {acc : List UInt8} (h : splAt l pos fr true outs acc) (hne : l.drop pos ≠ []) (hq : isQN (Lib.decodeL (l.drop pos)).1 = true) : splAt l (pos + (Lib.decodeL (l.drop pos)).2) fr false outs acc := by
  obtain ⟨b, t, e1, e2, e3, _⟩ := isQN_byte hne hq
  obtain ⟨a1, a2, a3, a4, a5⟩ := h
  obtain ⟨f1, f2, f3⟩ := front_take e1 a2 fr a1
  rw [e3]
  refine ⟨by omega, f3, by omega, by omega, ?_⟩
  rw [a5, f1, f2, e1, sp_escaped _ _ _ e2]
  simp
theorem splAt_plain {l : List UInt8} {pos fr : Nat} {outs : List (List UInt8)} {acc : List UInt8} (h : splAt l pos fr false outs acc) (hne : l.drop pos ≠ []) (hq : isQN (Lib.decodeL (l.drop pos)).1 = false) : splAt l (pos + (Lib.decodeL (l.drop pos)).2) fr false outs acc := by
  have h1 := Lib.decodeL_le _ hne
  rw [List.length_drop] at h1
  obtain ⟨a1, a2, a3, a4, a5⟩ := h
  refine ⟨by omega, by omega, by omega, by omega, ?_⟩
  rw [take_chunk l a1 a2, a5]
  conv => lhs; rw [← List.take_append_drop (Lib.decodeL (l.drop pos)).2 (l.drop pos)]
  rw [Nm.sp_plain (isQN_none hne hq), List.drop_drop]
  simp
theorem splAt_esc {l : List UInt8} {pos fr : Nat} {outs : List (List UInt8)} {acc : List UInt8} (h : splAt l pos fr false outs acc) (hne : l.drop pos ≠ []) (hq : (Lib.decodeL (l.drop pos)).1 = 92) : splAt l (pos + (Lib.decodeL (l.drop pos)).2) (pos + 1) true outs (acc ++ (l.take pos).drop fr) := by
  obtain ⟨b, t, e1, e2, e3, e4⟩ := isQN_byte hne (by rw [hq]; rfl)
  obtain ⟨a1, a2, a3, a4, a5⟩ := h
  obtain ⟨f1, f2, f3⟩ := front_take e1 a2 fr a1
  have eb : b = 92 := byte_of (by rw [e4, hq]; rfl)
  rw [e3]
  refine ⟨by omega, f3, ?_, by omega, ?_⟩
  · rw [List.length_append, List.length_drop, List.length_take]; omega
  · have f5 : (l.take (pos + 1)).drop (pos + 1) = [] := List.drop_eq_nil_of_le (by simp; omega)
    rw [a5, f1, f5, e1, eb, sp_esc]
    simp
theorem splAt_slash {l : List UInt8} {pos fr : Nat} {outs : List (List UInt8)} {acc : List UInt8} (h : splAt l pos fr false outs acc) (hne : l.drop pos ≠ []) (hq : (Lib.decodeL (l.drop pos)).1 = 47) : splAt l (pos + (Lib.decodeL (l.drop pos)).2) (pos + 1) false (outs ++ [acc ++ (l.take pos).drop fr]) [] := by
  obtain ⟨b, t, e1, e2, e3, e4⟩ := isQN_byte hne (by rw [hq]; rfl)
  obtain ⟨a1, a2, a3, a4, a5⟩ := h
  obtain ⟨f1, f2, f3⟩ := front_take e1 a2 fr a1
  have eb : b = 47 := byte_of (by rw [e4, hq]; rfl)
  rw [e3]
  refine ⟨by omega, f3, by simp, by simp; omega, ?_⟩
  have f5 : (l.take (pos + 1)).drop (pos + 1) = [] := List.drop_eq_nil_of_le (by simp; omega)
  rw [a5, f1, f5, e1, eb, sp_slash]
  simp
theorem splAt_end {l : List UInt8} {pos fr : Nat} {esc : Bool} {outs : List (List UInt8)} {acc : List UInt8} (h : splAt l pos fr esc outs acc) (hn : l.drop pos = []) : Nm.split l = if esc = true then none else some (outs ++ [acc ++ l.drop fr]) := by
  obtain ⟨a1, a2, a3, a4, a5⟩ := h
  have : pos = l.length := by
    have := congrArg List.length hn
    rw [List.length_drop] at this
    simp at this
    omega
  rw [a5, hn, this, List.take_length]
  cases esc <;> rfl

end Go.Proofs.Ytghkjbekjkejpaa.U
