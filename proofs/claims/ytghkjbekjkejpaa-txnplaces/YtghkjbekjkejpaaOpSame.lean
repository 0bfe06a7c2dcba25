/- The walks of Same and Gone, both sides. -/
import Derived.Test.YtghkjbekjkejpaaOpMem
import Derived.Test.YtghkjbekjkejpaaSameR
import Derived.Test.YtghkjbekjkejpaaEquals
namespace Go.Proofs.Ytghkjbekjkejpaa.O
open Go.RowKit

theorem neq_val (k n : Int) (l : List UInt8) (k' n' : Int) (l' : List UInt8) (w : World) : (binOp .neq 44 (valV k n l) (valV k' n' l')).run Try.prog w = .ok (.bool (!decide (k = k' ∧ n = n' ∧ l = l'))) w := by
  go_simp
  by_cases h1 : k = k' <;> by_cases h2 : n = n' <;> by_cases h3 : l = l' <;> simp [h1, h2, h3]
theorem OAt.new2 (w : World) (k : Int) (pv : Value) (vk vn : Int) (vs : List UInt8) (n : Int) (sv : Value) (k' : Int) (pv' : Value) (vk' vn' : Int) (vs' : List UInt8) (n' : Int) (sv' : Value) :
    OAt ((w.alloc (opO k pv vk vn vs n sv)).alloc (opO k' pv' vk' vn' vs' n' sv')) w.heap.size k pv vk vn vs n sv ∧ OAt ((w.alloc (opO k pv vk vn vs n sv)).alloc (opO k' pv' vk' vn' vs' n' sv')) (w.heap.size + 1) k' pv' vk' vn' vs' n' sv' := by
  refine ⟨(OAt.new w k pv vk vn vs n sv).on (below_new _ _), ?_⟩
  have h := OAt.new (w.alloc (opO k pv vk vn vs n sv)) k' pv' vk' vn' vs' n' sv'
  have e : (w.alloc (opO k pv vk vn vs n sv)).heap.size = w.heap.size + 1 := by simp
  rw [e] at h
  exact h
theorem same_iff {a b : Os.Op} (h : a.k = b.k ∧ a.p = b.p ∧ (a.vk = b.vk ∧ a.vn = b.vn ∧ a.vs = b.vs) ∧ a.n = b.n) : Os.same a b = decide (a.l = b.l) := by
  unfold Os.same
  rw [decide_eq_decide]
  exact ⟨fun x => x.2.2.2.2, fun x => ⟨h.1, h.2.1, h.2.2.1, h.2.2.2, x⟩⟩
theorem same_no {a b : Os.Op} (h : ¬ (a.k = b.k ∧ a.p = b.p ∧ (a.vk = b.vk ∧ a.vn = b.vn ∧ a.vs = b.vs) ∧ a.n = b.n)) : Os.same a b = false := by
  unfold Os.same
  exact decide_eq_false fun x => h ⟨x.1, x.2.1, x.2.2.1, x.2.2.2.1⟩

set_option maxRecDepth 20000 in
set_option maxHeartbeats 2000000 in
theorem same_any (k : Int) (pv : Value) (vk vn : Int) (vs : List UInt8) (n : Int) (sv : Value) (k' : Int) (pv' : Value) (vk' vn' : Int) (vs' : List UInt8) (n' : Int) (sv' : Value) (p p' : List (List UInt8)) (l l' : List U) (w : World)
    (hpl : p.length ≤ 1000000) (hll : l.length ≤ 1000000) (hp : U.strsAt w pv p) (hp' : U.strsAt w pv' p') (hs : refsIn w sv l) (hs' : refsIn w sv' l') :
    Calls Try.prog 36 #[opV k pv vk vn vs n sv, opV k' pv' vk' vn' vs' n' sv'] w fun e w' => e = .returned (.bool (Os.same ⟨k, p, vk, vn, vs, n, l⟩ ⟨k', p', vk', vn', vs', n', l'⟩)) ∧ Below w.heap.size w w' := by
  have B0 := below_new2 w (opO k pv vk vn vs n sv) (opO k' pv' vk' vn' vs' n' sv')
  have O0 := OAt.new2 w k pv vk vn vs n sv k' pv' vk' vn' vs' n' sv'
  by_cases h1 : k = k'
  rotate_left
  · rw [same_no (fun x => h1 x.1)]
    have e1 : (k == k') = false := beq_eq_false_iff_ne.2 h1
    clear h1 hp hp' hs hs'
    go_enter Try.func36, Try.ntmps36
    go_wp2
    go_ret
    exact ⟨rfl, B0⟩
  subst h1
  have C41 := fun W (hb : Below w.heap.size w W) => U.psame_any pv pv' p p' W (by omega) (U.strsAt_below hp hb (Nat.le_refl _)) (U.strsAt_below hp' hb (Nat.le_refl _))
  have C42 := fun W (hb : Below w.heap.size w W) => equalR_any sv sv' l l' W hll (hs.on hb) (hs'.on hb)
  by_cases h2 : p = p'
  rotate_left
  · rw [same_no (fun x => h2 x.2.1)]
    rw [decide_eq_false h2] at C41
    clear h2 hp hp' hs hs' C42
    go_enter Try.func36, Try.ntmps36
    go_wp2_with (go_at_call 57; refine (C41 _ B0).mono ?_; rintro e w1 ⟨rfl, hb1⟩)
    go_ret
    exact ⟨rfl, bchain B0 hb1⟩
  rw [decide_eq_true h2] at C41
  have hE := fun w => eql_val vk vn vs vk' vn' vs' w
  by_cases h3 : vk = vk' ∧ vn = vn' ∧ vs = vs'
  rotate_left
  · rw [same_no (fun x => h3 x.2.2.1)]
    rw [decide_eq_false h3] at hE
    clear h2 h3 hp hp' hs hs' C42
    go_enter Try.func36, Try.ntmps36
    go_wp2_with (go_at_call 57; refine (C41 _ B0).mono ?_; rintro e w1 ⟨rfl, hb1⟩; obtain ⟨c0, c1, c2, c3, c4, c5, c6⟩ := O0.1.on hb1; obtain ⟨d0, d1, d2, d3, d4, d5, d6⟩ := O0.2.on hb1)
    go_ret
    exact ⟨rfl, bchain B0 hb1⟩
  rw [decide_eq_true h3] at hE
  by_cases h4 : n = n'
  rotate_left
  · rw [same_no (fun x => h4 x.2.2.2)]
    have e4 : (n == n') = false := beq_eq_false_iff_ne.2 h4
    clear h2 h3 h4 hp hp' hs hs' C42
    go_enter Try.func36, Try.ntmps36
    go_wp2_with (go_at_call 57; refine (C41 _ B0).mono ?_; rintro e w1 ⟨rfl, hb1⟩; obtain ⟨c0, c1, c2, c3, c4, c5, c6⟩ := O0.1.on hb1; obtain ⟨d0, d1, d2, d3, d4, d5, d6⟩ := O0.2.on hb1)
    go_ret
    exact ⟨rfl, bchain B0 hb1⟩
  have e4 : (n == n') = true := by simpa using h4
  rw [same_iff (a := ⟨k, p, vk, vn, vs, n, l⟩) (b := ⟨k, p', vk', vn', vs', n', l'⟩) ⟨rfl, h2, h3, h4⟩]
  show Calls Try.prog 36 #[opV k pv vk vn vs n sv, opV k pv' vk' vn' vs' n' sv'] w fun e w' => e = .returned (.bool (decide (l = l'))) ∧ Below w.heap.size w w'
  generalize decide (l = l') = q at *
  clear h2 h3 h4 hp hp' hs hs'
  go_enter Try.func36, Try.ntmps36
  go_wp2_with (first
    | (go_at_call 57; refine (C41 _ B0).mono ?_; rintro e w1 ⟨rfl, hb1⟩; obtain ⟨c0, c1, c2, c3, c4, c5, c6⟩ := O0.1.on hb1; obtain ⟨d0, d1, d2, d3, d4, d5, d6⟩ := O0.2.on hb1)
    | (go_at_call 58; refine (C42 _ (bchain B0 hb1)).mono ?_; rintro e w2 ⟨rfl, hb2⟩))
  go_ret
  exact ⟨rfl, bchain (bchain B0 hb1) hb2⟩

set_option maxRecDepth 20000 in
set_option maxHeartbeats 2000000 in
theorem gone_any (k : Int) (pv : Value) (vk vn : Int) (vs : List UInt8) (n : Int) (sv : Value) (p : List (List UInt8)) (l : List U) (w : World)
    (hpl : p.length ≤ 1000000) (hll : l.length ≤ 1000000) (hp : U.strsAt w pv p) (hs : refsIn w sv l) :
    Calls Try.prog 53 #[opV k pv vk vn vs n sv] w fun e w' => e = .returned (.bool (Os.gone ⟨k, p, vk, vn, vs, n, l⟩)) ∧ Below w.heap.size w w' := by
  have B0 := below_new w (opO k pv vk vn vs n sv)
  have C15 := same_any k pv vk vn vs n sv 0 (.slice none 0 0) 0 0 [] 0 (.slice none 0 0) p [] l [] _ hpl hll (U.strsAt_below hp B0 (Nat.le_refl _)) (U.strsAt_nil _) (hs.on B0) (refsIn_nil _)
  clear hp hs
  go_enter Try.func53, Try.ntmps53
  go_wp2_with (go_at_call 36; refine C15.mono ?_; rintro e w1 ⟨rfl, hb1⟩)
  go_ret
  exact ⟨rfl, bchain B0 hb1⟩

set_option maxRecDepth 20000 in
set_option maxHeartbeats 2000000 in
theorem refGone_any (k : Int) (pv : Value) (vk vn : Int) (vs : List UInt8) (n : Int) (sv : Value) (p : List (List UInt8)) (l : List U) (w : World) (hp : U.strsAt w pv p) (hs : refsIn w sv l) :
    Calls Try.prog 28 #[opV k pv vk vn vs n sv] w fun e w' => e = .returned (.bool (Os.gone ⟨k, p, vk, vn, vs, n, l⟩)) ∧ Below w.heap.size w w' := by
  have B0 := below_new2 w (opO k pv vk vn vs n sv) (valO 0 0 [])
  obtain ⟨ao, cp, rfl, -, -⟩ := hp
  obtain ⟨bo, cs, rfl, -, -, -⟩ := hs
  by_cases h1 : k = 0
  rotate_left
  · rw [show Os.gone ⟨k, p, vk, vn, vs, n, l⟩ = false from decide_eq_false (fun x => h1 x.1)]
    have e1 : (k == 0) = false := beq_eq_false_iff_ne.2 h1
    clear h1
    go_enter Try.func28, Try.ntmps28
    go_wp2
    go_ret
    exact ⟨rfl, B0⟩
  subst h1
  by_cases h2 : p = []
  rotate_left
  · rw [show Os.gone ⟨0, p, vk, vn, vs, n, l⟩ = false from decide_eq_false (fun x => h2 x.2.1)]
    have e2 : (((p.length : Nat) : Int) == 0) = false := beq_eq_false_iff_ne.2 (by have : p.length ≠ 0 := fun e => h2 (List.eq_nil_of_length_eq_zero e); omega)
    clear h2
    go_enter Try.func28, Try.ntmps28
    go_wp2
    go_ret
    exact ⟨rfl, B0⟩
  subst h2
  have hE := fun w => eql_val vk vn vs 0 0 [] w
  by_cases h3 : vk = 0 ∧ vn = 0 ∧ vs = []
  rotate_left
  · rw [show Os.gone ⟨0, [], vk, vn, vs, n, l⟩ = false from decide_eq_false (fun x => h3 x.2.2.1)]
    rw [decide_eq_false h3] at hE
    clear h3
    go_enter Try.func28, Try.ntmps28
    go_wp2
    go_ret
    exact ⟨rfl, B0⟩
  obtain ⟨rfl, rfl, rfl⟩ := h3
  clear hE
  by_cases h4 : n = 0
  rotate_left
  · rw [show Os.gone ⟨0, [], 0, 0, [], n, l⟩ = false from decide_eq_false (fun x => h4 x.2.2.2.1)]
    have e4 : (n == 0) = false := beq_eq_false_iff_ne.2 h4
    clear h4
    go_enter Try.func28, Try.ntmps28
    go_wp2
    go_ret
    exact ⟨rfl, B0⟩
  subst h4
  by_cases h5 : l = []
  · subst h5
    rw [show Os.gone ⟨0, [], 0, 0, [], 0, []⟩ = true from rfl]
    go_enter Try.func28, Try.ntmps28
    go_wp2
    go_ret
    exact ⟨rfl, B0⟩
  · rw [show Os.gone ⟨0, [], 0, 0, [], 0, l⟩ = false from decide_eq_false (fun x => h5 x.2.2.2.2)]
    have e5 : (((l.length : Nat) : Int) == 0) = false := beq_eq_false_iff_ne.2 (by have : l.length ≠ 0 := fun e => h5 (List.eq_nil_of_length_eq_zero e); omega)
    clear h5
    go_enter Try.func28, Try.ntmps28
    go_wp2
    go_ret
    exact ⟨rfl, B0⟩

/-- The document's Same. -/
theorem refHead_no {a b : Os.Op} (h : a.k ≠ b.k ∨ ¬ (a.vk = b.vk ∧ a.vn = b.vn ∧ a.vs = b.vs) ∨ a.n ≠ b.n ∨ a.p ≠ b.p ∨ a.l.length ≠ b.l.length) : Os.same a b = false := by
  unfold Os.same
  refine decide_eq_false fun x => ?_
  rcases h with h | h | h | h | h
  · exact h x.1
  · exact h x.2.2.1
  · exact h x.2.2.2.1
  · exact h x.2.1
  · exact h (by rw [x.2.2.2.2])
set_option maxRecDepth 20000 in
set_option maxHeartbeats 4000000 in
theorem refSame_any (k : Int) (pv : Value) (vk vn : Int) (vs : List UInt8) (n : Int) (sv : Value) (k' : Int) (pv' : Value) (vk' vn' : Int) (vs' : List UInt8) (n' : Int) (sv' : Value) (p p' : List (List UInt8)) (l l' : List U) (w : World)
    (hpl : p.length ≤ 1000000) (hll : l.length ≤ 1000000) (hp : U.strsAt w pv p) (hp' : U.strsAt w pv' p') (hs : refsIn w sv l) (hs' : refsIn w sv' l') :
    Calls Try.prog 37 #[opV k pv vk vn vs n sv, opV k' pv' vk' vn' vs' n' sv'] w fun e w' => e = .returned (.bool (Os.same ⟨k, p, vk, vn, vs, n, l⟩ ⟨k', p', vk', vn', vs', n', l'⟩)) ∧ Below w.heap.size w w' := by
  have C43 := fun W (hb : Below w.heap.size w W) => U.same_any pv pv' p p' W (by omega) (U.strsAt_below hp hb (Nat.le_refl _)) (U.strsAt_below hp' hb (Nat.le_refl _))
  obtain ⟨bo, cs, rfl, _, _, hc⟩ := hs
  obtain ⟨bo', cs', rfl, _, _, hc'⟩ := hs'
  have HL : Hid (l.length ≤ 1000000) := hll
  obtain ⟨m, hm⟩ : ∃ m, m = l.length := ⟨_, rfl⟩
  obtain ⟨m', hm'⟩ : ∃ m', m' = l'.length := ⟨_, rfl⟩
  have HM : Hid (m = l.length) := hm
  have HM' : Hid (m' = l'.length) := hm'
  rw [← hm, ← hm']
  rw [← hm] at hll
  have B0 := below_new2 w (opO k pv vk vn vs n (.slice bo m cs)) (opO k' pv' vk' vn' vs' n' (.slice bo' m' cs'))
  have O0 := OAt.new2 w k pv vk vn vs n (.slice bo m cs) k' pv' vk' vn' vs' n' (.slice bo' m' cs')
  have HC : Hid (∀ k (h : k < l.length), ∃ ad, bo = some ad ∧ CAt w (ad.add (k * 3)) l[k]) := hc
  have HC' : Hid (∀ k (h : k < l'.length), ∃ ad, bo' = some ad ∧ CAt w (ad.add (k * 3)) l'[k]) := hc'
  clear hc hc' hp hp' hm hm'
  by_cases h1 : k = k'
  rotate_left
  · rw [refHead_no (a := ⟨k, p, vk, vn, vs, n, l⟩) (b := ⟨k', p', vk', vn', vs', n', l'⟩) (.inl h1)]
    have e1 : (k != k') = true := by simpa using h1
    clear h1
    go_enter Try.func37, Try.ntmps37
    go_wp2
    go_ret
    exact ⟨rfl, B0⟩
  subst h1
  have hE := fun w => neq_val vk vn vs vk' vn' vs' w
  by_cases h3 : vk = vk' ∧ vn = vn' ∧ vs = vs'
  rotate_left
  · rw [refHead_no (a := ⟨k, p, vk, vn, vs, n, l⟩) (b := ⟨k, p', vk', vn', vs', n', l'⟩) (.inr (.inl h3))]
    rw [decide_eq_false h3] at hE
    clear h3
    go_enter Try.func37, Try.ntmps37
    go_wp2
    go_ret
    exact ⟨rfl, B0⟩
  have HV : Hid (vk = vk' ∧ vn = vn' ∧ vs = vs') := h3
  rw [decide_eq_true h3] at hE
  simp only [Bool.not_true] at hE
  clear h3
  by_cases h4 : n = n'
  rotate_left
  · rw [refHead_no (a := ⟨k, p, vk, vn, vs, n, l⟩) (b := ⟨k, p', vk', vn', vs', n', l'⟩) (.inr (.inr (.inl h4)))]
    have e4 : (n != n') = true := by simpa using h4
    clear h4
    go_enter Try.func37, Try.ntmps37
    go_wp2
    go_ret
    exact ⟨rfl, B0⟩
  subst h4
  by_cases h2 : p = p'
  rotate_left
  · rw [refHead_no (a := ⟨k, p, vk, vn, vs, n, l⟩) (b := ⟨k, p', vk', vn', vs', n, l'⟩) (.inr (.inr (.inr (.inl h2))))]
    rw [decide_eq_false h2] at C43
    clear h2
    go_enter Try.func37, Try.ntmps37
    go_wp2_with (go_at_call 59; refine (C43 _ B0).mono ?_; rintro e w1 ⟨rfl, hb1⟩; obtain ⟨c0, c1, c2, c3, c4, c5, c6⟩ := O0.1.on hb1; obtain ⟨d0, d1, d2, d3, d4, d5, d6⟩ := O0.2.on hb1)
    go_ret
    exact ⟨rfl, bchain B0 hb1⟩
  have HP : Hid (p = p') := h2
  rw [decide_eq_true h2] at C43
  clear h2
  by_cases h5 : m = m'
  rotate_left
  · rw [refHead_no (a := ⟨k, p, vk, vn, vs, n, l⟩) (b := ⟨k, p', vk', vn', vs', n, l'⟩) (.inr (.inr (.inr (.inr (by have := HM.out; have := HM'.out; show l.length ≠ l'.length; omega)))))]
    have e5 : ((m : Int) != (m' : Int)) = true := by simp; omega
    clear h5
    go_enter Try.func37, Try.ntmps37
    go_wp2_with (go_at_call 59; refine (C43 _ B0).mono ?_; rintro e w1 ⟨rfl, hb1⟩; obtain ⟨c0, c1, c2, c3, c4, c5, c6⟩ := O0.1.on hb1; obtain ⟨d0, d1, d2, d3, d4, d5, d6⟩ := O0.2.on hb1)
    go_ret
    exact ⟨rfl, bchain B0 hb1⟩
  subst h5
  rw [same_iff (a := ⟨k, p, vk, vn, vs, n, l⟩) (b := ⟨k, p', vk', vn', vs', n, l'⟩) ⟨rfl, HP.out, HV.out, rfl⟩]
  show Calls Try.prog 37 #[opV k pv vk vn vs n (.slice bo m cs), opV k pv' vk' vn' vs' n (.slice bo' m cs')] w fun e w' => e = .returned (.bool (decide (l = l'))) ∧ Below w.heap.size w w'
  go_enter Try.func37, Try.ntmps37
  go_wp2_with (go_at_call 59; refine (C43 _ B0).mono ?_; rintro e w1 ⟨rfl, hb1⟩; obtain ⟨c0, c1, c2, c3, c4, c5, c6⟩ := O0.1.on hb1; obtain ⟨d0, d1, d2, d3, d4, d5, d6⟩ := O0.2.on hb1)
  have O1 := O0.1.on hb1
  have O2 := O0.2.on hb1
  have B1 := bchain B0 hb1
  clear c0 c1 c2 c3 c4 c5 c6 d0 d1 d2 d3 d4 d5 d6 O0 B0 C43 hE
  go_loopw [5] (fun i wr => ∃ j : Nat, j ≤ m ∧ i = .int .i64 j ∧ Hid (sameTo l l' j) ∧ Below w1.heap.size w1 wr) (fun i _ => m - (intOf i).toNat)
  case atStart => exact ⟨0, by omega, rfl, by have h := sameTo_zero l l'; exact h, Below.refl _ _⟩
  case round =>
    obtain ⟨j, hj, rfl, HS, hbw⟩ := hrel
    obtain ⟨c0, c1, c2, c3, c4, c5, c6⟩ := O1.on hbw
    obtain ⟨d0, d1, d2, d3, d4, d5, d6⟩ := O2.on hbw
    by_cases hlt : j < m
    · have hj1 : j < l.length := by have := HM.out; omega
      have hj2 : j < l'.length := by have := HM'.out; omega
      obtain ⟨ad, rfl, hA⟩ := HC.out j hj1
      obtain ⟨bd, rfl, hB⟩ := HC'.out j hj2
      obtain ⟨hA1, hA2, hA3⟩ := hA.on (bchain B1 hbw)
      obtain ⟨hB1, hB2, hB3⟩ := hB.on (bchain B1 hbw)
      have hi0 : (0 : Int) ≤ (j : Int) := by omega
      have hi1 : (j : Int) < (m : Int) := by omega
      clear hA hB
      have hE := neq_cnt l[j] l'[j]
      by_cases he : l[j] = l'[j]
      · have HS' : Hid (sameTo l l' (j + 1)) := by have h := sameTo_step HS.out hj1 hj2 he; exact h
        simp only [he, decide_true, Bool.not_true] at hE
        rw [he] at hA1 hA2 hA3
        generalize l'[j] = x at *
        clear HS
        go_wp2
        go_region
        all_goals
          go_wp2
          go_roundw
          case rel => exact ⟨j + 1, by omega, by go_num, HS', hbw.drew⟩
          case measure => simp [intOf]; omega
      · have HL : Hid (decide (l = l') = false) := by
          have h := same_not hj1 hj2 he
          exact h
        simp only [he, decide_false, Bool.not_false] at hE
        generalize l[j] = x at *
        generalize l'[j] = y at *
        go_wp2
        go_region
        all_goals
          go_wp2
          go_ret
          exact ⟨ret_bool HL.out.symm, bchain B1 hbw.drew⟩
    · have HL : Hid (decide (l = l') = true) := by
        have h := same_all HS.out (by have := HM.out; omega) (by have := HM.out; have := HM'.out; omega)
        exact h
      go_wp2
      go_ret
      exact ⟨ret_bool HL.out.symm, bchain B1 hbw⟩
end Go.Proofs.Ytghkjbekjkejpaa.O
