/- The walks of the document's Kinds, and of the statement's same, at the same leaves. -/
import Derived.Test.YtmnehekcealjhaaGreatTKinds
import Derived.Test.YtmnehekcealjhaaGreatAtPAll
namespace Go.Proofs.YtmnehekcealjhaaGreat.O
open Go.RowKit

/-- Of the first j kinds those that are there. -/
def kdsE (xs : List IE) (p : List (List UInt8)) (j : Nat) : List Int := (([1, 2, 3] : List Int).take j).filter fun k => !(xs.filter fun x => isAt p k x.1).isEmpty
theorem kdsE_yes {xs : List IE} {p : List (List UInt8)} {j : Nat} (hj : j < 3) (h : 0 < (xs.filter fun x => isAt p ((j : Int) + 1) x.1).length) : kdsE xs p (j + 1) = kdsE xs p j ++ [(j : Int) + 1] := by
  have hl : j < ([1, 2, 3] : List Int).length := hj
  have e : ([1, 2, 3] : List Int)[j] = (j : Int) + 1 := by
    match j, hj with
    | 0, _ => rfl
    | 1, _ => rfl
    | 2, _ => rfl
  unfold kdsE
  rw [List.take_succ_eq_append_getElem hl, List.filter_append, e]
  congr 1
  have : (xs.filter fun x => isAt p ((j : Int) + 1) x.1).isEmpty = false := by
    cases hx : (xs.filter fun x => isAt p ((j : Int) + 1) x.1) with
    | nil => rw [hx] at h; simp at h
    | cons a r => rfl
  simp [this]
theorem kdsE_no {xs : List IE} {p : List (List UInt8)} {j : Nat} (hj : j < 3) (h : ¬ 0 < (xs.filter fun x => isAt p ((j : Int) + 1) x.1).length) : kdsE xs p (j + 1) = kdsE xs p j := by
  have hl : j < ([1, 2, 3] : List Int).length := hj
  have e : ([1, 2, 3] : List Int)[j] = (j : Int) + 1 := by
    match j, hj with
    | 0, _ => rfl
    | 1, _ => rfl
    | 2, _ => rfl
  unfold kdsE
  rw [List.take_succ_eq_append_getElem hl, List.filter_append, e]
  have : (xs.filter fun x => isAt p ((j : Int) + 1) x.1).isEmpty = true := by
    cases hx : (xs.filter fun x => isAt p ((j : Int) + 1) x.1) with
    | nil => rfl
    | cons a r => rw [hx] at h; simp at h
  simp [this]
theorem kdsE_len (xs : List IE) (p : List (List UInt8)) (j : Nat) : (kdsE xs p j).length ≤ 3 := by
  unfold kdsE
  refine Nat.le_trans (List.length_filter_le _ _) ?_
  rw [List.length_take]
  exact Nat.min_le_right _ _
theorem filt_map9 (P : Lv.Item → Bool) : ∀ l : List IE, (l.filter fun x => P x.1).map (·.1) = (l.map (·.1)).filter P := fun l => by
  rw [List.filter_map]
  rfl
theorem kdsE_its (xs : List IE) (p : List (List UInt8)) : kdsE xs p 3 = Tr.kinds (xs.map (·.1)) p := by
  unfold kdsE Tr.kinds
  refine congrArg (fun P => ([1, 2, 3] : List Int).filter P) (funext fun k => ?_)
  have h := filt_map9 (isAt p k) xs
  have e : Lv.atLeaf (xs.map (·.1)) p k = (xs.map (·.1)).filter (isAt p k) := rfl
  rw [e, ← h]
  simp

set_option maxRecDepth 20000 in
set_option maxHeartbeats 2000000 in
theorem refKinds_any (v vp : Value) (xs : List IE) (p : List (List UInt8)) (w : World) (hv : itsE w v xs) (hp : U.strsAt w vp p) (hn : xs.length ≤ 1000000) (hpn : p.length ≤ 2000000) (hs : ShortI xs) :
    Calls Tryz.prog 11 #[v, vp] w fun e w' => ∃ r, e = .returned r ∧ rowsIn w' ncell r (Tr.kinds (xs.map (·.1)) p) ∧ Below w.heap.size w w' := by
  obtain ⟨ao, cap, rfl⟩ := hv.slice
  obtain ⟨qa, qn, qc, rfl⟩ := strs_slice hp
  obtain ⟨i0, hI0, hz0, hz1, hz2⟩ := ninfo3
  obtain ⟨n, hn0⟩ : ∃ n, n = xs.length := ⟨_, rfl⟩
  have HN : Hid (n = xs.length) := hn0
  rw [← hn0] at hv ⊢
  have HV : Hid (itsE w (.slice ao n cap) xs) := hv
  have HS : Hid (ShortI xs) := hs
  have HP : Hid (U.strsAt w (.slice qa qn qc) p) := hp
  have HL : Hid (xs.length ≤ 1000000) := hn
  clear hn0 hv hs hp hn
  go_enter Tryz.func11, Tryz.ntmps11
  go_wp2
  go_loopw [5, 6] (fun out kk wr => ∃ (j : Nat) (acc : List Int), j ≤ 3 ∧ kk = .int .i64 ((j : Int) + 1) ∧ Hid (acc = kdsE xs p j) ∧ wr.ownsRow w.heap.size 3 1 out acc.length (acc.flatMap ncell) ∧ Below w.heap.size w wr) (fun _ kk _ => 4 - (intOf kk).toNat)
  case atStart => exact ⟨0, [], by omega, by go_num, rfl, World.ownsRow_nil _ _ _ _, Below.refl _ _⟩
  case round =>
    obtain ⟨j, acc, hj, rfl, HA, hown, hbw⟩ := hrel
    have hroom : acc.length + 1 ≤ 1000001 := by
      have h1 := congrArg List.length HA.out
      have h2 := kdsE_len xs p j
      omega
    by_cases hj3 : j < 3
    · have HC := refAt_any (.slice ao n cap) (.slice qa qn qc) xs p ((j : Int) + 1) wr (HV.out.on hbw) (U.strsAt_below HP.out hbw (Nat.le_refl _)) HL.out hpn HS.out
      have HY : Hid (0 < (xs.filter fun x => isAt p ((j : Int) + 1) x.1).length → acc ++ [(j : Int) + 1] = kdsE xs p (j + 1)) := by
        have h : 0 < (xs.filter fun x => isAt p ((j : Int) + 1) x.1).length → acc ++ [(j : Int) + 1] = kdsE xs p (j + 1) := fun h => by rw [kdsE_yes hj3 h, HA.out]
        exact h
      have HNo : Hid (¬ 0 < (xs.filter fun x => isAt p ((j : Int) + 1) x.1).length → acc = kdsE xs p (j + 1)) := by
        have h : ¬ 0 < (xs.filter fun x => isAt p ((j : Int) + 1) x.1).length → acc = kdsE xs p (j + 1) := fun h => by rw [kdsE_no hj3 h]; exact HA.out
        exact h
      have hle : (j : Int) + 1 ≤ 3 := by omega
      clear HA
      generalize (xs.filter fun x => isAt p ((j : Int) + 1) x.1) = ys at *
      by_cases hp0 : 0 < ys.length
      · have HE : Hid (acc ++ [(j : Int) + 1] = kdsE xs p (j + 1)) := by have h := HY.out hp0; exact h
        have hpi : (0 : Int) < (ys.length : Int) := by omega
        clear HY HNo
        go_wp2_with (first
          | (at_builtin; refine append_one (f := ncell) (m := 1) (fun _ => rfl) (Nat.succ_pos 0) (ST := 32) (T := 3) rfl Tryz.underlying32 hI0 hz0 hz1 hz2 rfl (by decide) _ _ rfl w.heap.size (bchain hB2 (below_new w1 (.cells #[.int .i64 ((j : Int) + 1)] 3))).size _ acc rfl (own_on (own_on hown hb1) (below_new w1 (.cells #[.int .i64 ((j : Int) + 1)] 3))) _ ((j : Int) + 1) rfl (new_num w1 ((j : Int) + 1)) (ncell_one ((j : Int) + 1)) hroom ?_; intro v2 w3 hown2 hg2)
          | (go_at_call 31; refine HC.mono ?_; rintro e w1 ⟨r, rfl, hr, hb1⟩; have hB2 := bchain hbw hb1; obtain ⟨ra, rc, rfl⟩ := hr.slice)
          | go_in)
        go_roundw
        case rel => exact ⟨j + 1, acc ++ [(j : Int) + 1], by omega, by go_num, HE, hown2, (bchain hB2 (below_new w1 (.cells #[.int .i64 ((j : Int) + 1)] 3))).grown hg2 (bchain hB2 (below_new w1 (.cells #[.int .i64 ((j : Int) + 1)] 3))).size (fun g e => (hown.lt g e).1)⟩
        case measure => simp [intOf]; omega
      · have HE : Hid (acc = kdsE xs p (j + 1)) := by have h := HNo.out hp0; exact h
        have hpi : ¬ (0 : Int) < (ys.length : Int) := by omega
        clear HY HNo
        go_wp2_with (go_at_call 31; refine HC.mono ?_; rintro e w1 ⟨r, rfl, hr, hb1⟩; have hB2 := bchain hbw hb1; obtain ⟨ra, rc, rfl⟩ := hr.slice)
        go_roundw
        case rel => exact ⟨j + 1, acc, by omega, by go_num, HE, own_on hown hb1, hB2⟩
        case measure => simp [intOf]; omega
    · obtain rfl : j = 3 := by omega
      have HE : Hid (acc = Tr.kinds (xs.map (·.1)) p) := by
        have h := HA.out
        rw [kdsE_its] at h
        exact h
      have hle : ¬ ((3 : Nat) : Int) + 1 ≤ 3 := by omega
      go_wp2
      go_ret
      exact ⟨_, rfl, by rw [← HE.out]; exact (rowR.of_own (cell1_len _) hown).rows (cell1_len _), hbw⟩
end Go.Proofs.YtmnehekcealjhaaGreat.O
