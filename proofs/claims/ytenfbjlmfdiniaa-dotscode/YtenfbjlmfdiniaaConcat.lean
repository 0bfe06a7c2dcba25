/- The walks of slices.Grow (of nothing) and slices.Concat, at dots. -/
import Derived.Test.YtenfbjlmfdiniaaRow
import Derived.Lib.AppendZerosOnto
import Derived.Laws.AppendOwnNone
import Derived.OwnWalk
namespace Go.Proofs.Ytenfbjlmfdiniaa
open Go.RowKit

theorem info28 : ∃ i0, Try.prog.info? 28 = some i0 ∧ i0.zero = some (.agg #[.int .i64 0, .int .i64 0]) ∧ i0.size = 2 ∧ i0.bytes = 16 := by
  have h : (Try.prog.info? 28).map (fun i => (i.zero, i.size, i.bytes)) = some (some (.agg #[.int .i64 0, .int .i64 0]), 2, 16) := by kernel_rfl
  obtain ⟨i0, h0, h1⟩ := Option.map_eq_some_iff.1 h
  have e := Prod.mk.inj h1
  have e2 := Prod.mk.inj e.2
  exact ⟨i0, h0, e.1, e2.1, e2.2⟩

theorem own_grown {w wr w1 : World} {B s : Nat} {e : TypeId} {v : Value} {n : Nat} {xs : List Value} (hown : wr.ownsRow B e s v n xs) (hB : B ≤ wr.heap.size) (hbw : Below B w wr) (hgrow : wr.grownBy w1 v.ownBlock) : Below B w w1 :=
  hbw.grown hgrow (by omega) (fun k hk => (hown.lt k hk).1)

set_option maxRecDepth 20000 in
set_option maxHeartbeats 1000000 in
theorem grow_nil (n : Nat) (hn : n ≤ 1000000) (w : World) :
    Calls Try.prog 97 #[.slice none 0 0, .int .i64 (n : Int)] w fun e w' => ∃ v, e = .returned v ∧ w'.ownsRow w.heap.size 28 2 v 0 [] ∧ Below w.heap.size w w' := by
  have h1 : ¬ ((n : Int) < 0) := by omega
  by_cases h0 : n = 0
  · subst h0
    go_enter Try.func97, Try.ntmps97
    go_wp2
    go_ret
    exact ⟨_, rfl, World.ownsRow_nil _ _ _ _, Below.refl _ _⟩
  · obtain ⟨i0, hi, hz, hs, hby⟩ := info28
    have h2 : 0 < (n : Int) := by omega
    have hold : (Builtin.firstCells i0.size 0 (.slice none 0 0)).run Try.prog w.drew = .ok #[] w.drew := run_firstCells_none w.drew i0.size 0 0 0
    have hrz : ∀ ty, (Builtin.append_ #[24, 3] ty #[.slice none 0 0, .int .i64 (n : Int)]).run Try.prog w =
        .ok (.slice (some ⟨w.heap.size, 0, none⟩) n (grownCap w n 0 28)) (w.drew.alloc (.cells (#[] ++ Builtin.zeroCells #[.int .i64 0, .int .i64 0] n ++ Builtin.zeroCells #[.int .i64 0, .int .i64 0] (grownCap w n 0 28 - n)) 28)) := fun ty => by
      have h := Lib.run_append_grow_zeros w 24 3 ty 28 i0 _ .i64 .i64 Try.underlying24 Try.underlying3 hi hz none 0 0 [] hold n (by omega) (by omega) (by omega) (by omega) (by rw [hby]; omega) (by
        rw [Nat.zero_add]; exact growslice_fits (by omega) (by rw [hby]; omega))
      rw [Nat.zero_add] at h
      exact h
    have hGn : n ≤ grownCap w n 0 28 := grownCap_ge w _ _ _
    have hG63 := grownCap_le_maxLen w n 0 28 (by unfold maxLen; omega)
    generalize grownCap w n 0 28 = G at *
    have hG64 : G ≤ 9223372036854775807 := by unfold maxLen at hG63; omega
    clear hold
    go_enter Try.func97, Try.ntmps97
    go_wp2_with (at_builtin; refine Lib.wpList_append_run _ rfl _ _ _ _ rfl _ _ rfl rfl _ _ (hrz _) ?_)
    go_ret
    refine ⟨_, rfl, World.ownsRow_made w.drew _ G (Nat.le_refl _) hG63 ?_, ((Below.refl _ _).drew).alloc (Nat.le_refl _) _⟩
    simp [Builtin.zeroCells]
    omega

/-- A slice of slices reads as these. -/
def listsIn (w : World) (v : Value) (vs : List Value) : Prop := ∃ b cap, v = .slice (some ⟨b, 0, none⟩) vs.length cap ∧ ∀ k (h : k < vs.length), w.cell? ⟨b, k, none⟩ = some vs[k]
/-- Each of the slices reads as dots. -/
def dotsAll (w : World) (vs : List Value) (dss : List (List D)) : Prop := vs.length = dss.length ∧ ∀ k (h : k < vs.length) (h' : k < dss.length), dotsIn w vs[k] dss[k]
theorem dotsAll.on {w w' : World} {vs : List Value} {dss : List (List D)} (h : dotsAll w vs dss) (hb : Below w.heap.size w w') : dotsAll w' vs dss := ⟨h.1, fun k h1 h2 => (h.2 k h1 h2).on hb⟩
/-- The dots of the first ones, and how many there are. -/
def front (dss : List (List D)) (k : Nat) : List D := (dss.take k).flatten
def sum (dss : List (List D)) (k : Nat) : Nat := (front dss k).length
theorem sum_zero (dss : List (List D)) : sum dss 0 = 0 := by simp [sum, front]
theorem front_step (dss : List (List D)) (k : Nat) (h : k < dss.length) : front dss (k + 1) = front dss k ++ dss[k] := by
  unfold front
  rw [List.take_succ_eq_append_getElem h, List.flatten_append]
  simp only [List.flatten_cons, List.flatten_nil, List.append_nil]
theorem sum_step (dss : List (List D)) (k : Nat) (h : k < dss.length) : sum dss (k + 1) = sum dss k + (dss[k]).length := by
  unfold sum
  rw [front_step dss k h, List.length_append]
theorem front_all (dss : List (List D)) : front dss dss.length = dss.flatten := by unfold front; rw [List.take_length]
theorem sum_le (dss : List (List D)) (k : Nat) : sum dss k ≤ dss.flatten.length := by
  have : dss.flatten = (dss.take k).flatten ++ (dss.drop k).flatten := by rw [← List.flatten_append, List.take_append_drop]
  rw [this]
  simp [sum, front]

set_option maxRecDepth 20000 in
set_option maxHeartbeats 400000 in
theorem concat_any (v : Value) (vs : List Value) (dss : List (List D)) (w : World) (hv : listsIn w v vs) (hd : dotsAll w vs dss) (hn : dss.length ≤ 1000) (hs : dss.flatten.length ≤ 1000000) :
    Calls Try.prog 83 #[v] w fun e w' => ∃ v', e = .returned v' ∧ w'.ownsRow w.heap.size 28 2 v' dss.flatten.length (dcells dss.flatten) ∧ Below w.heap.size w w' := by
  obtain ⟨b, cap, rfl, hc⟩ := hv
  obtain ⟨n, hvn⟩ : ∃ n, n = vs.length := ⟨_, rfl⟩
  have HV : Hid (n = vs.length) := hvn
  have HD : Hid (n = dss.length) := by have h : n = dss.length := hvn.trans hd.1; exact h
  have HX : Hid (∀ k, k < n → ∃ h' : k < dss.length, ∃ x, w.cell? ⟨b, k, none⟩ = some x ∧ dotsIn w x dss[k]) := by
    have h : ∀ k, k < n → ∃ h' : k < dss.length, ∃ x, w.cell? ⟨b, k, none⟩ = some x ∧ dotsIn w x dss[k] := fun k hk => by
      have h1 : k < vs.length := by omega
      have h2 : k < dss.length := by have := hd.1; omega
      exact ⟨h2, vs[k], hc k h1, hd.2 k h1 h2⟩
    exact h
  have HS : Hid (∀ k, sum dss k ≤ 1000000) := fun k => Nat.le_trans (sum_le dss k) hs
  have hn' : n ≤ 1000 := by have := HD.out; omega
  obtain ⟨N, hN⟩ : ∃ N, N = dss.flatten.length := ⟨_, rfl⟩
  have HF : Hid (sum dss n = N ∧ N = dss.flatten.length ∧ dss.flatten = front dss n) := by
    have h : sum dss n = N ∧ N = dss.flatten.length ∧ dss.flatten = front dss n := by rw [HD.out, sum, front_all]; exact ⟨hN.symm, hN, rfl⟩
    exact h
  have hs' : N ≤ 1000000 := by omega
  rw [← hN, ← hvn]
  have e0 : dss.flatten = front dss n := HF.out.2.2
  rw [e0]
  clear hs hd hc hvn hN hn e0
  go_enter Try.func83, Try.ntmps83
  go_wp2
  go_loop [3, 5, 11] (fun z _ i => ∃ k : Nat, k ≤ n ∧ z = .int .i64 (sum dss k : Nat) ∧ i = .int .i64 k) (fun _ _ i => n - (intOf i).toNat)
  case atStart => exact ⟨0, by omega, by rw [sum_zero]; rfl, rfl⟩
  case round =>
    obtain ⟨k, hk, rfl, rfl⟩ := hrel
    by_cases hlt : k < n
    · obtain ⟨h', x, hc1, hd1⟩ := HX.out k hlt
      have hst := sum_step dss k h'
      have hle := HS.out (k + 1)
      obtain ⟨ao, c, rfl, h1, h2⟩ := hd1
      clear h1 h2
      generalize (dss[k]).length = m at *
      generalize hA : sum dss (k + 1) = A at *
      generalize sum dss k = B at *
      have HA : Hid (A = sum dss (k + 1)) := by have h : A = sum dss (k + 1) := hA.symm; exact h
      clear hA
      subst hst
      go_wp2
      go_round
      case rel => exact ⟨k + 1, by omega, by rw [← HA.out]; go_num, by go_num⟩
      case measure => simp [intOf]; omega
    · obtain rfl : k = n := by omega
      rw [HF.out.1]
      have HG := grow_nil N hs' w
      obtain ⟨i0, hi, hz, hz1, hz2⟩ := info28
      go_wp2_with (go_at_call 97; refine HG.mono ?_; rintro e w1 ⟨v0, rfl, hown, hbw⟩)
      go_loopw [6, 8, 27] (fun r _ i wr => ∃ j : Nat, j ≤ k ∧ i = .int .i64 j ∧ wr.ownsRow w.heap.size 28 2 r (sum dss j) (dcells (front dss j)) ∧ Below w.heap.size w wr) (fun _ _ i _ => k - (intOf i).toNat)
      case atStart => exact ⟨0, by omega, rfl, by rw [sum_zero]; exact hown, hbw⟩
      case round =>
        clear hown hbw HG
        obtain ⟨j, hj, rfl, hown, hbw⟩ := hrel
        by_cases hlt : j < k
        · obtain ⟨h', x, hc1, hd1⟩ := HX.out j hlt
          have hc1 := keep_cell hbw hc1
          have hd1 := hd1.on hbw
          have hst := sum_step dss j h'
          have hle := HS.out (j + 1)
          have hfl := front_step dss j h'
          have hwr := hbw.size
          have HB : ∀ {w1 : World}, wr.grownBy w1 u6.ownBlock → Below w.heap.size w w1 := fun hg => own_grown hown hwr hbw hg
          obtain ⟨ao, c, rfl, h0, h2⟩ := id hd1
          cases ao with
          | none =>
            obtain rfl := h0 rfl
            have hz0 : (dss[j]).length = 0 := by
              cases hq : (dss[j]).length with
              | zero => rfl
              | succ m =>
                obtain ⟨_, e3, _⟩ := h2 0 (by omega)
                cases e3
            rw [hz0] at hst hc1
            have hz9 : dss[j] = [] := List.eq_nil_of_length_eq_zero hz0
            rw [hz9, List.append_nil] at hfl
            clear hd1 h2 h0 hz0 hz9
            have hst' : sum dss (j + 1) = sum dss j := by omega
            rw [← hst', ← hfl] at hown
            clear hst hst' hfl
            go_wp2_with (at_builtin; refine wpList_append_own_none rfl _ _ 24 rfl w.heap.size 28 i0 2 Try.underlying24 hi _ _ _ rfl hown rfl ?_)
            go_roundw
            case rel => exact ⟨j + 1, by omega, by go_num, hown, hbw⟩
            case measure => simp [intOf]; omega
          | some ad =>
            have hcl := hd1.cells
            have hdl := dcells_length dss[j]
            have h1 := dcells_one dss[j]
            rw [hst] at hle
            have hc9 := dcells_append (front dss j) dss[j]
            rw [← hfl] at hc9
            have h63 : sum dss j + (dss[j]).length ≤ maxLen := by unfold maxLen; omega
            have hby : (sum dss j + (dss[j]).length) * 16 ≤ 140737488355328 := by omega
            clear hd1 h0 h2
            generalize hm : dcells dss[j] = news at *
            generalize (dss[j]).length = m at *
            clear hm hfl
            go_wp2_with (at_builtin; refine wpList_append_own _ rfl _ _ 24 rfl w.heap.size 28 i0 _ 2 16 Try.underlying24 hi hz hz1 hz2 rfl (by decide) _ _ _ rfl hown ad m _ news rfl hdl hcl h1 h63 hby hwr ?_; intro v' w1 hown' hg _)
            go_roundw
            case rel => exact ⟨j + 1, by omega, by go_num, by rw [hst, hc9]; exact hown', HB hg⟩
            case measure => simp [intOf]; omega
        · obtain rfl : j = k := by omega
          rw [HF.out.1] at hown
          go_wp2
          go_ret
          exact ⟨_, rfl, hown, hbw⟩
end Go.Proofs.Ytenfbjlmfdiniaa
