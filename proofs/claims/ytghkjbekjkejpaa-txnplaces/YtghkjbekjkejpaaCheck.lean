/- The walks of Check, both sides. -/
import Derived.Test.YtghkjbekjkejpaaOpSame
import Derived.Test.YtghkjbekjkejpaaRefs
import Derived.Test.YtghkjbekjkejpaaKinds
import Derived.Test.YtghkjbekjkejpaaRights
import Derived.Test.YtghkjbekjkejpaaChecks
namespace Go.Proofs.Ytghkjbekjkejpaa.O
open Go.RowKit

set_option maxRecDepth 20000 in
set_option maxHeartbeats 2000000 in
theorem rv_any (k : Int) (pv : Value) (vk vn : Int) (vs : List UInt8) (n : Int) (sv : Value) (p : List (List UInt8)) (l : List U) (w : World) :
    Calls Try.prog 78 #[opV k pv vk vn vs n sv] w fun e w' => e = .returned (.bool (Os.rv ⟨k, p, vk, vn, vs, n, l⟩)) ∧ Below w.heap.size w w' := by
  have B0 := below_new w (opO k pv vk vn vs n sv)
  have O0 := OAt.new w k pv vk vn vs n sv
  have C47 := fun w => hv_any k w
  unfold Os.rv
  dsimp only
  cases hq : Os.hv k with
  | true =>
    rw [hq] at C47
    rw [if_pos rfl]
    have C75 := fun w => V.right_any vk vn vs w
    generalize Vl.right vk vn vs = q at *
    clear hq
    go_enter Try.func78, Try.ntmps78
    go_wp2_with (first
      | (go_at_call 62; refine (C47 _).mono ?_; rintro e w1 ⟨rfl, hw⟩; have hw := hw.symm; subst hw)
      | (go_at_call 94; refine (C75 _).mono ?_; rintro e w2 ⟨rfl, hb2⟩))
    go_ret
    exact ⟨rfl, bchain B0 hb2⟩
  | false =>
    rw [hq] at C47
    rw [if_neg (by simp)]
    have hE := fun w => eql_val vk vn vs 0 0 [] w
    generalize decide (vk = 0 ∧ vn = 0 ∧ vs = []) = q at *
    clear hq
    go_enter Try.func78, Try.ntmps78
    go_wp2_with (go_at_call 62; refine (C47 _).mono ?_; rintro e w1 ⟨rfl, hw⟩; have hw := hw.symm; subst hw)
    go_ret
    exact ⟨rfl, B0⟩

set_option maxRecDepth 20000 in
set_option maxHeartbeats 2000000 in
theorem ra_any (k : Int) (pv : Value) (vk vn : Int) (vs : List UInt8) (n : Int) (sv : Value) (p : List (List UInt8)) (l : List U) (w : World) :
    Calls Try.prog 79 #[opV k pv vk vn vs n sv] w fun e w' => e = .returned (.bool (Os.ra ⟨k, p, vk, vn, vs, n, l⟩)) ∧ Below w.heap.size w w' := by
  have B0 := below_new w (opO k pv vk vn vs n sv)
  have O0 := OAt.new w k pv vk vn vs n sv
  have C49 := fun w => ha_any k w
  unfold Os.ra
  dsimp only
  cases hq : Os.ha k with
  | true =>
    rw [hq] at C49
    rw [if_pos rfl]
    clear hq
    by_cases h1 : n = 0
    · rw [decide_eq_false (by omega)]
      subst h1
      go_enter Try.func79, Try.ntmps79
      go_wp2_with (go_at_call 64; refine (C49 _).mono ?_; rintro e w1 ⟨rfl, hw⟩; have hw := hw.symm; subst hw)
      go_ret
      exact ⟨rfl, B0⟩
    · have e1 : (n != 0) = true := by simpa using h1
      by_cases h2 : -2147483647 ≤ n
      · by_cases h3 : n ≤ 2147483647
        · rw [decide_eq_true ⟨h1, h2, h3⟩]
          clear h1
          go_enter Try.func79, Try.ntmps79
          go_wp2_with (go_at_call 64; refine (C49 _).mono ?_; rintro e w1 ⟨rfl, hw⟩; have hw := hw.symm; subst hw)
          go_ret
          exact ⟨rfl, B0⟩
        · rw [decide_eq_false (by omega)]
          clear h1
          go_enter Try.func79, Try.ntmps79
          go_wp2_with (go_at_call 64; refine (C49 _).mono ?_; rintro e w1 ⟨rfl, hw⟩; have hw := hw.symm; subst hw)
          go_ret
          exact ⟨ret_bool (decide_eq_false (by omega)), B0⟩
      · rw [decide_eq_false (by omega)]
        clear h1
        go_enter Try.func79, Try.ntmps79
        go_wp2_with (go_at_call 64; refine (C49 _).mono ?_; rintro e w1 ⟨rfl, hw⟩; have hw := hw.symm; subst hw)
        go_ret
        exact ⟨rfl, B0⟩
  | false =>
    rw [hq] at C49
    rw [if_neg (by simp)]
    clear hq
    by_cases h1 : n = 0
    · rw [decide_eq_true h1]
      subst h1
      go_enter Try.func79, Try.ntmps79
      go_wp2_with (go_at_call 64; refine (C49 _).mono ?_; rintro e w1 ⟨rfl, hw⟩; have hw := hw.symm; subst hw)
      go_ret
      exact ⟨rfl, B0⟩
    · rw [decide_eq_false h1]
      have e1 : (n == 0) = false := beq_eq_false_iff_ne.2 h1
      clear h1
      go_enter Try.func79, Try.ntmps79
      go_wp2_with (go_at_call 64; refine (C49 _).mono ?_; rintro e w1 ⟨rfl, hw⟩; have hw := hw.symm; subst hw)
      go_ret
      exact ⟨rfl, B0⟩

/-! ### What Check answers -/
theorem ck_kind {o : Os.Op} (h : o.k < 1 ∨ 5 < o.k) : Os.check o = 18 := by unfold Os.check; rw [if_pos h]
theorem ck_path {o : Os.Op} (h : ¬ (o.k < 1 ∨ 5 < o.k)) (hp : Pt.check o.p ≠ 0) : Os.check o = Pt.check o.p := by unfold Os.check; rw [if_neg h, if_pos hp]
theorem ck_arg {o : Os.Op} (h : ¬ (o.k < 1 ∨ 5 < o.k)) (hp : Pt.check o.p = 0) (h2 : Os.rv o = false ∨ Os.ra o = false ∨ (Os.hs o.k = false ∧ 0 < o.l.length)) : Os.check o = 2 := by
  unfold Os.check; rw [if_neg h, if_neg (by omega), if_pos h2]
theorem ck_full {o : Os.Op} (h : ¬ (o.k < 1 ∨ 5 < o.k)) (hp : Pt.check o.p = 0) (h2 : ¬ (Os.rv o = false ∨ Os.ra o = false ∨ (Os.hs o.k = false ∧ 0 < o.l.length))) (h3 : 256 < o.l.length) : Os.check o = 7 := by
  unfold Os.check; rw [if_neg h, if_neg (by omega), if_neg h2, if_pos h3]
theorem ck_refs {o : Os.Op} (h : ¬ (o.k < 1 ∨ 5 < o.k)) (hp : Pt.check o.p = 0) (h2 : ¬ (Os.rv o = false ∨ Os.ra o = false ∨ (Os.hs o.k = false ∧ 0 < o.l.length))) (h3 : ¬ 256 < o.l.length) (h4 : Os.ups o.l = false) : Os.check o = 2 := by
  unfold Os.check; rw [if_neg h, if_neg (by omega), if_neg h2, if_neg h3, if_pos h4]
theorem ck_ok {o : Os.Op} (h : ¬ (o.k < 1 ∨ 5 < o.k)) (hp : Pt.check o.p = 0) (h2 : ¬ (Os.rv o = false ∨ Os.ra o = false ∨ (Os.hs o.k = false ∧ 0 < o.l.length))) (h3 : ¬ 256 < o.l.length) (h4 : Os.ups o.l = true) : Os.check o = 0 := by
  unfold Os.check; rw [if_neg h, if_neg (by omega), if_neg h2, if_neg h3, if_neg (by simp [h4])]

set_option maxRecDepth 20000 in
set_option maxHeartbeats 4000000 in
theorem check_any (k : Int) (pv : Value) (vk vn : Int) (vs : List UInt8) (n : Int) (sv : Value) (p : List (List UInt8)) (l : List U) (w : World)
    (hx : p.length ≤ 1000000) (hll : l.length ≤ 1000000) (hp : U.strsAt w pv p) (hs : refsIn w sv l) :
    Calls Try.prog 54 #[opV k pv vk vn vs n sv] w fun e w' => e = .returned (.int .i64 (Os.check ⟨k, p, vk, vn, vs, n, l⟩ : Nat)) ∧ Below w.heap.size w w' := by
  have C33 := fun W (hb : Below w.heap.size w W) => U.check_any pv p W (by omega) (U.strsAt_below hp hb (Nat.le_refl _))
  have C13 := fun W (hb : Below w.heap.size w W) => refs_list sv l W (hs.on hb) hll
  have C34 := fun w => rv_any k pv vk vn vs n sv p l w
  have C35 := fun w => ra_any k pv vk vn vs n sv p l w
  have C36 := fun w => hs_any k w
  obtain ⟨bo, cs, rfl, -, -, -⟩ := hs
  have B0 := below_new w (opO k pv vk vn vs n (.slice bo l.length cs))
  have O0 := OAt.new w k pv vk vn vs n (.slice bo l.length cs)
  clear hp
  by_cases h0 : k < 1
  · rw [ck_kind (o := ⟨k, p, vk, vn, vs, n, l⟩) (.inl h0)]
    go_enter Try.func54, Try.ntmps54
    go_wp2
    go_ret
    exact ⟨rfl, B0⟩
  by_cases h5 : 5 < k
  · rw [ck_kind (o := ⟨k, p, vk, vn, vs, n, l⟩) (.inr h5)]
    go_enter Try.func54, Try.ntmps54
    go_wp2
    go_ret
    exact ⟨rfl, B0⟩
  have hk : ¬ (k < 1 ∨ 5 < k) := by omega
  by_cases hq : Pt.check p = 0
  rotate_left
  · rw [ck_path (o := ⟨k, p, vk, vn, vs, n, l⟩) hk hq]
    show Calls Try.prog 54 #[opV k pv vk vn vs n (.slice bo l.length cs)] w fun e w' => e = .returned (.int .i64 (Pt.check p : Nat)) ∧ Below w.heap.size w w'
    generalize Pt.check p = q at *
    have e1 : ((q : Int) != 0) = true := by simp; omega
    clear hk hq
    go_enter Try.func54, Try.ntmps54
    go_wp2_with (go_at_call 77; refine (C33 _ B0).mono ?_; rintro e w1 ⟨rfl, hb1⟩)
    go_ret
    exact ⟨rfl, bchain B0 hb1⟩
  rw [hq] at C33
  have hlen : (0 < l.length ↔ (0 : Int) < (l.length : Int)) := by omega
  have HK : Hid (¬ (k < 1 ∨ 5 < k)) := hk
  have HQ : Hid (Pt.check p = 0) := hq
  clear hk hq
  cases h1 : Os.rv ⟨k, p, vk, vn, vs, n, l⟩ with
  | false =>
    rw [ck_arg HK.out HQ.out (.inl h1)]
    rw [h1] at C34
    clear h1 C35 C36
    go_enter Try.func54, Try.ntmps54
    go_wp2_with (first
      | (go_at_call 77; refine (C33 _ B0).mono ?_; rintro e w1 ⟨rfl, hb1⟩; obtain ⟨c0, c1, c2, c3, c4, c5, c6⟩ := O0.on hb1)
      | (go_at_call 78; refine (C34 _).mono ?_; rintro e w2 ⟨rfl, hb2⟩))
    go_ret
    exact ⟨rfl, bchain (bchain B0 hb1) hb2⟩
  | true =>
  rw [h1] at C34
  cases h2 : Os.ra ⟨k, p, vk, vn, vs, n, l⟩ with
  | false =>
    rw [ck_arg HK.out HQ.out (.inr (.inl h2))]
    rw [h2] at C35
    clear h1 h2 C36
    go_enter Try.func54, Try.ntmps54
    go_wp2_with (first
      | (go_at_call 77; refine (C33 _ B0).mono ?_; rintro e w1 ⟨rfl, hb1⟩; obtain ⟨c0, c1, c2, c3, c4, c5, c6⟩ := O0.on hb1)
      | (go_at_call 78; refine (C34 _).mono ?_; rintro e w2 ⟨rfl, hb2⟩; obtain ⟨c0, c1, c2, c3, c4, c5, c6⟩ := O0.on (bchain hb1 hb2))
      | (go_at_call 79; refine (C35 _).mono ?_; rintro e w3 ⟨rfl, hb3⟩))
    go_ret
    exact ⟨rfl, bchain (bchain (bchain B0 hb1) hb2) hb3⟩
  | true =>
  rw [h2] at C35
  by_cases h3 : Os.hs k = false ∧ 0 < l.length
  · rw [ck_arg (o := ⟨k, p, vk, vn, vs, n, l⟩) HK.out HQ.out (.inr (.inr h3))]
    rw [h3.1] at C36
    have h3' := hlen.1 h3.2
    clear h1 h2 h3 hlen
    go_enter Try.func54, Try.ntmps54
    go_wp2_with (first
      | (go_at_call 77; refine (C33 _ B0).mono ?_; rintro e w1 ⟨rfl, hb1⟩; obtain ⟨c0, c1, c2, c3, c4, c5, c6⟩ := O0.on hb1)
      | (go_at_call 78; refine (C34 _).mono ?_; rintro e w2 ⟨rfl, hb2⟩; obtain ⟨c0, c1, c2, c3, c4, c5, c6⟩ := O0.on (bchain hb1 hb2))
      | (go_at_call 79; refine (C35 _).mono ?_; rintro e w3 ⟨rfl, hb3⟩; obtain ⟨c0, c1, c2, c3, c4, c5, c6⟩ := O0.on (bchain (bchain hb1 hb2) hb3))
      | (go_at_call 66; refine (C36 _).mono ?_; rintro e w4 ⟨rfl, hw⟩; have hw := hw.symm; subst hw))
    go_ret
    exact ⟨rfl, bchain (bchain (bchain B0 hb1) hb2) hb3⟩
  have HA : Hid (¬ (Os.rv ⟨k, p, vk, vn, vs, n, l⟩ = false ∨ Os.ra ⟨k, p, vk, vn, vs, n, l⟩ = false ∨ (Os.hs k = false ∧ 0 < l.length))) := by
    have h : ¬ (Os.rv ⟨k, p, vk, vn, vs, n, l⟩ = false ∨ Os.ra ⟨k, p, vk, vn, vs, n, l⟩ = false ∨ (Os.hs k = false ∧ 0 < l.length)) := by
      rintro (x | x | x)
      · rw [h1] at x; cases x
      · rw [h2] at x; cases x
      · exact h3 x
    exact h
  have HB : ∀ q : Nat, (l.length : Int) = q → Os.hs k = true ∨ (Os.hs k = false ∧ ¬ (0 : Int) < (q : Int)) := fun q hq => by
    cases e : Os.hs k with
    | true => exact .inl rfl
    | false => exact .inr ⟨rfl, fun x => h3 ⟨e, by omega⟩⟩
  have HB := HB l.length rfl
  clear h1 h2 h3 hlen
  by_cases h6 : 256 < l.length
  · rw [ck_full (o := ⟨k, p, vk, vn, vs, n, l⟩) HK.out HQ.out HA.out h6]
    have h6' : (256 : Int) < (l.length : Int) := by omega
    clear h6
    generalize l.length = m at *
    rcases HB with e | ⟨e, e'⟩ <;> rw [e] at C36
    · clear e
      go_enter Try.func54, Try.ntmps54
      go_wp2_with (first
        | (go_at_call 77; refine (C33 _ B0).mono ?_; rintro e w1 ⟨rfl, hb1⟩; obtain ⟨c0, c1, c2, c3, c4, c5, c6⟩ := O0.on hb1)
        | (go_at_call 78; refine (C34 _).mono ?_; rintro e w2 ⟨rfl, hb2⟩; obtain ⟨c0, c1, c2, c3, c4, c5, c6⟩ := O0.on (bchain hb1 hb2))
        | (go_at_call 79; refine (C35 _).mono ?_; rintro e w3 ⟨rfl, hb3⟩; obtain ⟨c0, c1, c2, c3, c4, c5, c6⟩ := O0.on (bchain (bchain hb1 hb2) hb3))
        | (go_at_call 66; refine (C36 _).mono ?_; rintro e w4 ⟨rfl, hw⟩; have hw := hw.symm; subst hw))
      go_ret
      exact ⟨rfl, bchain (bchain (bchain B0 hb1) hb2) hb3⟩
    · exfalso; omega
  have h6' : ¬ (256 : Int) < (l.length : Int) := by omega
  have HU : Hid ((Os.check ⟨k, p, vk, vn, vs, n, l⟩ : Nat) = if Os.ups l = true then 0 else 2) := by
    have h : (Os.check ⟨k, p, vk, vn, vs, n, l⟩ : Nat) = if Os.ups l = true then 0 else 2 := by
      cases e : Os.ups l with
      | true => rw [if_pos rfl]; exact ck_ok HK.out HQ.out HA.out h6 e
      | false => rw [if_neg (by simp)]; exact ck_refs HK.out HQ.out HA.out h6 e
    exact h
  rw [HU.out]
  clear h6 HA HK HQ HU hll
  cases e7 : Os.ups l with
  | true =>
    rw [e7] at C13
    rw [if_pos rfl]
    clear e7
    generalize l.length = m at *
    rcases HB with e | ⟨e, e'⟩ <;> rw [e] at C36 <;> clear e
    all_goals
      go_enter Try.func54, Try.ntmps54
      go_wp2_with (first
        | (go_at_call 77; refine (C33 _ B0).mono ?_; rintro e w1 ⟨rfl, hb1⟩; obtain ⟨c0, c1, c2, c3, c4, c5, c6⟩ := O0.on hb1)
        | (go_at_call 78; refine (C34 _).mono ?_; rintro e w2 ⟨rfl, hb2⟩; obtain ⟨c0, c1, c2, c3, c4, c5, c6⟩ := O0.on (bchain hb1 hb2))
        | (go_at_call 79; refine (C35 _).mono ?_; rintro e w3 ⟨rfl, hb3⟩; obtain ⟨c0, c1, c2, c3, c4, c5, c6⟩ := O0.on (bchain (bchain hb1 hb2) hb3))
        | (go_at_call 66; refine (C36 _).mono ?_; rintro e w4 ⟨rfl, hw⟩; have hw := hw.symm; subst hw)
        | (go_at_call 80; refine (C13 _ (bchain (bchain (bchain B0 hb1) hb2) hb3)).mono ?_; rintro e w5 ⟨rfl, hb5⟩))
      go_ret
      exact ⟨rfl, bchain (bchain (bchain (bchain B0 hb1) hb2) hb3) hb5⟩
  | false =>
    rw [e7] at C13
    rw [if_neg (by simp)]
    clear e7
    generalize l.length = m at *
    rcases HB with e | ⟨e, e'⟩ <;> rw [e] at C36 <;> clear e
    all_goals
      go_enter Try.func54, Try.ntmps54
      go_wp2_with (first
        | (go_at_call 77; refine (C33 _ B0).mono ?_; rintro e w1 ⟨rfl, hb1⟩; obtain ⟨c0, c1, c2, c3, c4, c5, c6⟩ := O0.on hb1)
        | (go_at_call 78; refine (C34 _).mono ?_; rintro e w2 ⟨rfl, hb2⟩; obtain ⟨c0, c1, c2, c3, c4, c5, c6⟩ := O0.on (bchain hb1 hb2))
        | (go_at_call 79; refine (C35 _).mono ?_; rintro e w3 ⟨rfl, hb3⟩; obtain ⟨c0, c1, c2, c3, c4, c5, c6⟩ := O0.on (bchain (bchain hb1 hb2) hb3))
        | (go_at_call 66; refine (C36 _).mono ?_; rintro e w4 ⟨rfl, hw⟩; have hw := hw.symm; subst hw)
        | (go_at_call 80; refine (C13 _ (bchain (bchain (bchain B0 hb1) hb2) hb3)).mono ?_; rintro e w5 ⟨rfl, hb5⟩))
      go_ret
      exact ⟨rfl, bchain (bchain (bchain (bchain B0 hb1) hb2) hb3) hb5⟩
end Go.Proofs.Ytghkjbekjkejpaa.O
