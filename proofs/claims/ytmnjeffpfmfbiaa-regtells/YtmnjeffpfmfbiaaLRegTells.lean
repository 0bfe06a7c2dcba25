/- The walk of the statement RegTells. -/
import Derived.Test.YtmnjeffpfmfbiaaVAwake
import Derived.Test.YtmnjeffpfmfbiaaRefAll
namespace Go.Proofs.Ytmnjeffpfmfbiaa.O
open Go.RowKit

/-- All of what is good, both ways, whatever was laid since. -/
def AllC (f : FuncId) (w : World) (v vu : Value) (its : List Lv.Item) : Prop := ∀ W, Below w.heap.size w W → Calls Try.prog f #[v, vu] W fun e w' => ∃ r xs, e = .returned r ∧ itsE w' r xs ∧ xs.map (·.1) = its ∧ ShortI xs ∧ xs.length ≤ 1000000 ∧ Below W.heap.size W w'
theorem allC {v vu : Value} {ts : List Tx.Txn} {u : List U} {w : World} (hv : txsIn w v ts) (hu : T.cntsIn w vu u) (hn : ts.length ≤ 1000) (hg : ∀ t ∈ ts, okT t = true) (hun : u.length ≤ 1000000) (hp : Ct.Std u) : AllC 8 w v vu (Lv.all ts (seenD u)) := fun W hb =>
  (all_any v vu ts u W (hv.on hb) (hu.on hb) hn (good_few hg) (good_dots hg) hun hp).mono fun _ _ ⟨r, xs, h1, h2, h3, h4⟩ => ⟨r, xs, h1, h2, h3, all_short hg h3, all_len hn hg h3, h4⟩
theorem refAllC {v vu : Value} {ts : List Tx.Txn} {u : List U} {w : World} (hv : txsIn w v ts) (hu : T.cntsIn w vu u) (hn : ts.length ≤ 1000) (hg : ∀ t ∈ ts, okT t = true) (hun : u.length ≤ 1000000) (hp : Ct.Std u) : AllC 9 w v vu (Lv.all ts (seenD u)) := fun W hb =>
  (refAll_any v vu ts u W (hv.on hb) (hu.on hb) hn (fun t ht => ⟨(okT_few (hg t ht)).1, fun o ho => ((okT_few (hg t ht)).2 o ho).1⟩) hun hp).mono fun _ _ ⟨r, xs, h1, h2, h3, h4⟩ => ⟨r, xs, h1, h2, h3, all_short hg h3, all_len hn hg h3, h4⟩

set_option maxRecDepth 20000 in
set_option maxHeartbeats 4000000 in
theorem regTells_walk (v : Value) (ts : List Tx.Txn) (vu : Value) (u : List U) (vp : Value) (p : List (List UInt8)) (w : World) (hw : ∀ t ∈ ts, txWide t) (hv : txsIn w v ts) (hu : T.cntsIn w vu u) (hpl : p.length ≤ maxLen) (hpz : ∀ x ∈ p, x.length ≤ maxLen) (hp : U.strsAt w vp p) :
    Calls Try.prog 3 #[v, vu, vp] w fun e w' => e = .returned (.bool true) ∧ Below w.heap.size w w' := by
  have HG := good_any v vu ts u w hw hv hu
  have HS := fun W (hb : Below w.heap.size w W) => U.short_any vp p W hpl hpz (U.strsAt_below hp hb (Nat.le_refl _))
  obtain ⟨ao, cap, rfl⟩ := txs_slice hv
  obtain ⟨uo, uc, rfl⟩ := cnts_slice hu
  obtain ⟨qa, qn, qc, rfl⟩ := strs_slice hp
  cases hg : good13 ts u with
  | false =>
    rw [hg] at HG
    clear hv hu hp hw hpl hpz HS
    generalize ts.length = n at *
    generalize u.length = m at *
    go_enter Try.func3, Try.ntmps3
    go_wp2_with (first
      | (go_at_call 5; refine HG.mono ?_; rintro e w1 ⟨rfl, hb1⟩)
      | (go_at_call 7; refine (awake_any _).mono ?_; rintro e w2 ⟨rfl, hb2⟩))
    go_ret
    exact ⟨rfl, bchain hb1 hb2⟩
  | true =>
    rw [hg] at HG
    cases hs : Pt.short p with
    | false =>
      rw [hs] at HS
      clear hv hu hp hw hpl hpz
      generalize ts.length = n at *
      generalize u.length = m at *
      go_enter Try.func3, Try.ntmps3
      go_wp2_with (first
        | (go_at_call 5; refine HG.mono ?_; rintro e w1 ⟨rfl, hb1⟩)
        | (go_at_call 6; refine (HS _ hb1).mono ?_; rintro e w3 ⟨rfl, hb3⟩)
        | (go_at_call 7; refine (awake_any _).mono ?_; rintro e w2 ⟨rfl, hb2⟩))
      go_ret
      exact ⟨rfl, bchain hb1 (bchain hb3 hb2)⟩
    | true =>
      rw [hs] at HS
      obtain ⟨⟨h20, hr, hok⟩, h100, hstd⟩ := good13_parts hg
      have hps := (Pt.short_iff hs).1
      have HX : Hid (AllC 8 w (.slice ao ts.length cap) (.slice uo u.length uc) (Lv.all ts (seenD u))) := allC hv hu (by omega) hok (by omega) hstd
      have HY : Hid (AllC 9 w (.slice ao ts.length cap) (.slice uo u.length uc) (Lv.all ts (seenD u))) := refAllC hv hu (by omega) hok (by omega) hstd
      have HP : Hid (∀ W, Below w.heap.size w W → U.strsAt W (.slice qa qn qc) p) := by
        have h := fun W (hb : Below w.heap.size w W) => U.strsAt_below hp hb (Nat.le_refl _)
        exact h
      have hpn : p.length ≤ 2000000 := by omega
      generalize Lv.all ts (seenD u) = its at *
      clear hv hu hp hw hpl hpz hg hs h20 hr hok h100 hstd hps
      generalize ts.length = n at *
      generalize u.length = m at *
      obtain ⟨rv, hrv⟩ : ∃ rv, rv = regV its p := ⟨_, rfl⟩
      obtain ⟨rl, hrl⟩ : ∃ rl, rl = regL its p := ⟨_, rfl⟩
      obtain ⟨rb, hrb⟩ : ∃ rb, rb = regB its p := ⟨_, rfl⟩
      have hrn : Hid (rv.length ≤ its.length) := by have h := regV_len its p; rw [← hrv] at h; exact h
      have C14 : Hid (∀ r xs W, itsE W r xs → xs.map (·.1) = its → xs.length ≤ 1000000 → ShortI xs → Below w.heap.size w W → Calls Try.prog 14 #[r, .slice qa qn qc] W fun e w' => ∃ q, e = .returned q ∧ valsIn w' q rv ∧ Below W.heap.size W w') := by
        have h := fun r xs W (h1 : itsE W r xs) (h2 : xs.map (·.1) = its) (h3 : xs.length ≤ 1000000) (h4 : ShortI xs) (hb : Below w.heap.size w W) => values_its h1 h2 (HP.out W hb) h3 h4
        rw [← hrv] at h
        exact h
      have C12 : Hid (∀ r xs W, itsE W r xs → xs.map (·.1) = its → xs.length ≤ 1000000 → ShortI xs → Below w.heap.size w W → Calls Try.prog 12 #[r, .slice qa qn qc] W fun e w' => ∃ q, e = .returned q ∧ valsIn w' q rv ∧ Below W.heap.size W w') := by
        have h := fun r xs W (h1 : itsE W r xs) (h2 : xs.map (·.1) = its) (h3 : xs.length ≤ 1000000) (h4 : ShortI xs) (hb : Below w.heap.size w W) => refValues_its h1 h2 (HP.out W hb) h3 hpn h4
        rw [← hrv] at h
        exact h
      have C10 : Hid (∀ r xs W, itsE W r xs → xs.map (·.1) = its → xs.length ≤ 1000000 → ShortI xs → Below w.heap.size w W → Calls Try.prog 10 #[r, .slice qa qn qc] W fun e w' => e = .returned (.tuple #[vV rl, .bool rb]) ∧ Below W.heap.size W w') := by
        have h := fun r xs W (h1 : itsE W r xs) (h2 : xs.map (·.1) = its) (h3 : xs.length ≤ 1000000) (h4 : ShortI xs) (hb : Below w.heap.size w W) => latest_its h1 h2 (HP.out W hb) h3 h4
        rw [← hrl, ← hrb] at h
        exact h
      have C11 : Hid (∀ r xs W, itsE W r xs → xs.map (·.1) = its → xs.length ≤ 1000000 → ShortI xs → Below w.heap.size w W → Calls Try.prog 11 #[r, .slice qa qn qc] W fun e w' => e = .returned (.tuple #[vV rl, .bool rb]) ∧ Below W.heap.size W w') := by
        have h := fun r xs W (h1 : itsE W r xs) (h2 : xs.map (·.1) = its) (h3 : xs.length ≤ 1000000) (h4 : ShortI xs) (hb : Below w.heap.size w W) => refLatest_its h1 h2 (HP.out W hb) h3 hpn h4
        rw [← hrl, ← hrb] at h
        exact h
      have C15 : Hid (∀ r xs W, itsE W r xs → xs.map (·.1) = its → xs.length ≤ 1000000 → ShortI xs → Below w.heap.size w W → Calls Try.prog 15 #[r, .slice qa qn qc] W fun e w' => e = .returned (.bool (decide ((1 : Int) < (rv.length : Int)))) ∧ Below W.heap.size W w') := by
        have h := fun r xs W (h1 : itsE W r xs) (h2 : xs.map (·.1) = its) (h3 : xs.length ≤ 1000000) (h4 : ShortI xs) (hb : Below w.heap.size w W) => conflict_its h1 h2 (HP.out W hb) h3 h4
        rw [← hrv, show decide (1 < rv.length) = decide ((1 : Int) < (rv.length : Int)) from decide_eq_decide.2 ⟨fun h => by omega, fun h => by omega⟩] at h
        exact h
      clear hrv hrl hrb
      have hEb := eqb_same rb
      have hEc := eqb_same (decide ((1 : Int) < (rv.length : Int)))
      have hEv := eql_va rl rl
      simp only [decide_true] at hEv
      go_enter Try.func3, Try.ntmps3
      go_wp2_with (first
        | (go_at_call 5; refine HG.mono ?_; rintro e w1 ⟨rfl, hb1⟩)
        | (go_at_call 6; refine (HS _ hb1).mono ?_; rintro e w2 ⟨rfl, hb2⟩; have k2 := bchain hb1 hb2)
        | (go_at_call 8; refine (HX.out _ k2).mono ?_; rintro e w3 ⟨rx, xs, rfl, hx, hxe, hxs, hxn, hb3⟩; have k3 := bchain k2 hb3)
        | (go_at_call 9; refine (HY.out _ k3).mono ?_; rintro e w4 ⟨ry, ys, rfl, hy, hye, hys, hyn, hb4⟩; have k4 := bchain k3 hb4; have hx4 := hx.on hb4)
        | (go_at_call 10; refine (C10.out _ xs _ hx4 hxe hxn hxs k4).mono ?_; rintro e w5 ⟨rfl, hb5⟩; have j5 := bchain hb5 (below_new w5 (vO rl)))
        | (go_at_call 11; refine (C11.out _ ys _ (hy.on j5) hye hyn hys (bchain k4 j5)).mono ?_; rintro e w6 ⟨rfl, hb6⟩; have j6 := bchain j5 (bchain hb6 (below_new w6 (vO rl))))
        | (go_at_call 12; refine (C12.out _ ys _ (hy.on j6) hye hyn hys (bchain k4 j6)).mono ?_; rintro e w7 ⟨q7, rfl, h7, hb7⟩; have j7 := bchain j6 hb7; obtain ⟨o7, c7, e7⟩ := h7.slice; subst e7)
        | (go_at_call 14; refine (C14.out _ xs _ (hx4.on j7) hxe hxn hxs (bchain k4 j7)).mono ?_; rintro e w8 ⟨q8, rfl, h8, hb8⟩; have j8 := bchain j7 hb8)
        | (go_at_call 13; refine (sameV_any _ _ rv _ h8 (h7.on hb8) (Nat.le_trans hrn.out (by rw [← hxe, List.length_map]; exact hxn))).mono ?_; rintro e w9 ⟨rfl, hb9⟩; have j9 := bchain j8 hb9; obtain ⟨x0, x1, x2⟩ := ((VVar.new w5 rl).on (bchain (bchain hb6 (below_new w6 (vO rl))) (bchain hb7 (bchain hb8 hb9)))).at; obtain ⟨y0, y1, y2⟩ := ((VVar.new w6 rl).on (bchain hb7 (bchain hb8 hb9))).at; simp only [Nat.zero_add] at x1 x2 y1 y2)
        | (go_at_call 15; refine (C15.out _ xs _ (hx4.on j9) hxe hxn hxs (bchain k4 j9)).mono ?_; rintro e wA ⟨rfl, hbA⟩; have jA := bchain j9 hbA)
        | (go_at_call 7; refine (awake_any _).mono ?_; rintro e wG ⟨rfl, hbG⟩))
      go_ret
      exact ⟨rfl, bchain k4 (bchain jA hbG)⟩
end Go.Proofs.Ytmnjeffpfmfbiaa.O
