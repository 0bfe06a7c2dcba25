/- The walk of the statement BagTells. -/
import Derived.Test.YtjbbhfkbhpagbaaBAwake
import Derived.Test.YtjbbhfkbhpagbaaBItsAAll
import Derived.Test.YtjbbhfkbhpagbaaGoodsAll
import Derived.Test.YtjbbhfkbhpagbaaRefAll
namespace Go.Proofs.Ytjbbhfkbhpagbaa.O
open Go.RowKit

/-- What All tells, at any world behind the first, whatever was laid since. -/
def AllC (f : FuncId) (w : World) (v vu : Value) (its : List Lv.Item) : Prop := ∀ W, Below w.heap.size w W → Calls Try.prog f #[v, vu] W fun e w' => ∃ r xs, e = .returned r ∧ itsE w' r xs ∧ xs.map (·.1) = its ∧ ShortI xs ∧ xs.length ≤ 1000000 ∧ Below W.heap.size W w'
theorem allC {v vu : Value} {ts : List Tx.Txn} {u : List U} {w : World} (hv : txsIn w v ts) (hu : T.cntsIn w vu u) (hn : ts.length ≤ 1000) (hg : ∀ t ∈ ts, okT t = true) (hun : u.length ≤ 1000000) (hp : Ct.Std u) : AllC 7 w v vu (Lv.all ts (seenD u)) := fun W hb =>
  (all_any v vu ts u W (hv.on hb) (hu.on hb) hn (good_few hg) (good_dots hg) hun hp).mono fun _ _ ⟨r, xs, h1, h2, h3, h4⟩ => ⟨r, xs, h1, h2, h3, all_short hg h3, all_len hn hg h3, h4⟩
theorem refAllC {v vu : Value} {ts : List Tx.Txn} {u : List U} {w : World} (hv : txsIn w v ts) (hu : T.cntsIn w vu u) (hn : ts.length ≤ 1000) (hg : ∀ t ∈ ts, okT t = true) (hun : u.length ≤ 1000000) (hp : Ct.Std u) : AllC 8 w v vu (Lv.all ts (seenD u)) := fun W hb =>
  (refAll_any v vu ts u W (hv.on hb) (hu.on hb) hn (fun t ht => ⟨(okT_few (hg t ht)).1, fun o ho => ((okT_few (hg t ht)).2 o ho).1⟩) hun hp).mono fun _ _ ⟨r, xs, h1, h2, h3, h4⟩ => ⟨r, xs, h1, h2, h3, all_short hg h3, all_len hn hg h3, h4⟩

set_option maxRecDepth 20000 in
set_option maxHeartbeats 4000000 in
theorem bagTells_any (v : Value) (ts : List Tx.Txn) (vu : Value) (u : List U) (vp : Value) (p : List (List UInt8)) (x : Rg.Va) (w : World) (hw : ∀ t ∈ ts, txWide t) (hv : txsIn w v ts) (hu : T.cntsIn w vu u) (hpl : p.length ≤ maxLen) (hpz : ∀ x ∈ p, x.length ≤ maxLen) (hp : U.strsAt w vp p) :
    Calls Try.prog 3 #[v, vu, vp, vV x] w fun e w' => e = .returned (.bool true) ∧ Below w.heap.size w w' := by
  obtain ⟨W0, hW0⟩ : ∃ W0, W0 = w.alloc (vO x) := ⟨_, rfl⟩
  have B0 : Below w.heap.size w W0 := by rw [hW0]; exact below_new _ _
  have V0 : VAt W0 w.heap.size x.1 x.2.1 x.2.2 := by rw [hW0]; exact VAt.new w _ _ _
  have HG := good_any v vu ts u W0 hw (hv.on B0) (hu.on B0)
  have HS := fun W (hb : Below w.heap.size w W) => U.short_any vp p W hpl hpz (U.strsAt_below hp hb (Nat.le_refl _))
  obtain ⟨ao, cap, rfl⟩ := txs_slice hv
  obtain ⟨uo, uc, rfl⟩ := cnts_slice hu
  obtain ⟨qa, qn, qc, rfl⟩ := strs_slice hp
  cases hg : good13 ts u with
  | false =>
    rw [hg] at HG
    clear hv hu hp hw hpl hpz HS V0
    generalize ts.length = n at *
    generalize u.length = m at *
    go_enter Try.func3, Try.ntmps3
    go_wp2_with (first
      | (go_at_call 4; rw [← hW0]; refine HG.mono ?_; rintro e w1 ⟨rfl, hb1⟩)
      | (go_at_call 6; refine (awake_any _).mono ?_; rintro e w2 ⟨rfl, hb2⟩))
    go_ret
    exact ⟨rfl, bchain B0 (bchain hb1 hb2)⟩
  | true =>
    rw [hg] at HG
    cases hs : Pt.short p with
    | false =>
      rw [hs] at HS
      clear hv hu hp hw hpl hpz V0
      generalize ts.length = n at *
      generalize u.length = m at *
      go_enter Try.func3, Try.ntmps3
      go_wp2_with (first
        | (go_at_call 4; rw [← hW0]; refine HG.mono ?_; rintro e w1 ⟨rfl, hb1⟩; have k1 := bchain B0 hb1)
        | (go_at_call 5; refine (HS _ k1).mono ?_; rintro e w3 ⟨rfl, hb3⟩)
        | (go_at_call 6; refine (awake_any _).mono ?_; rintro e w2 ⟨rfl, hb2⟩))
      go_ret
      exact ⟨rfl, bchain k1 (bchain hb3 hb2)⟩
    | true =>
      rw [hs] at HS
      obtain ⟨⟨h20, hr, hok⟩, h100, hstd⟩ := good13_parts hg
      have hps := (Pt.short_iff hs).1
      have HX : Hid (AllC 7 w (.slice ao ts.length cap) (.slice uo u.length uc) (Lv.all ts (seenD u))) := allC hv hu (by omega) hok (by omega) hstd
      have HY : Hid (AllC 8 w (.slice ao ts.length cap) (.slice uo u.length uc) (Lv.all ts (seenD u))) := refAllC hv hu (by omega) hok (by omega) hstd
      have HP : Hid (∀ W, Below w.heap.size w W → U.strsAt W (.slice qa qn qc) p) := by
        have h := fun W (hb : Below w.heap.size w W) => U.strsAt_below hp hb (Nat.le_refl _)
        exact h
      have hpn : p.length ≤ 2000000 := by omega
      generalize Lv.all ts (seenD u) = its at *
      clear hv hu hp hw hpl hpz hg hs h20 hr hok h100 hstd hps
      generalize ts.length = n at *
      generalize u.length = m at *
      obtain ⟨bv, hbv⟩ : ∃ bv, bv = bagV its p := ⟨_, rfl⟩
      obtain ⟨us, hus⟩ : ∃ us, us = bagA its p x := ⟨_, rfl⟩
      have hbn : Hid (bv.length ≤ its.length) := by have h := bagV_len its p; rw [← hbv] at h; exact h
      have hun : Hid (us.length ≤ its.length) := by have h := bagA_len its p x; rw [← hus] at h; exact h
      have C11 : Hid (∀ r xs W, itsE W r xs → xs.map (·.1) = its → xs.length ≤ 1000000 → ShortI xs → Below w.heap.size w W → Calls Try.prog 11 #[r, .slice qa qn qc] W fun e w' => ∃ q, e = .returned q ∧ valsIn w' q bv ∧ Below W.heap.size W w') := by
        have h := fun r xs W (h1 : itsE W r xs) (h2 : xs.map (·.1) = its) (h3 : xs.length ≤ 1000000) (h4 : ShortI xs) (hb : Below w.heap.size w W) => values_its h1 h2 (HP.out W hb) h3 h4
        rw [← hbv] at h
        exact h
      have C12 : Hid (∀ r xs W, itsE W r xs → xs.map (·.1) = its → xs.length ≤ 1000000 → ShortI xs → Below w.heap.size w W → Calls Try.prog 12 #[r, .slice qa qn qc] W fun e w' => ∃ q, e = .returned q ∧ valsIn w' q bv ∧ Below W.heap.size W w') := by
        have h := fun r xs W (h1 : itsE W r xs) (h2 : xs.map (·.1) = its) (h3 : xs.length ≤ 1000000) (h4 : ShortI xs) (hb : Below w.heap.size w W) => refValues_its h1 h2 (HP.out W hb) h3 hpn h4
        rw [← hbv] at h
        exact h
      have C14 : Hid (∀ r xs W, itsE W r xs → xs.map (·.1) = its → xs.length ≤ 1000000 → ShortI xs → Below w.heap.size w W → Calls Try.prog 14 #[r, .slice qa qn qc, vV x] W fun e w' => ∃ q, e = .returned q ∧ refsIn w' q us ∧ Below W.heap.size W w') := by
        have h := fun r xs W (h1 : itsE W r xs) (h2 : xs.map (·.1) = its) (h3 : xs.length ≤ 1000000) (h4 : ShortI xs) (hb : Below w.heap.size w W) => adds_its h1 h2 (HP.out W hb) h3 h4 x
        rw [← hus] at h
        exact h
      have C9 : Hid (∀ r xs W, itsE W r xs → xs.map (·.1) = its → xs.length ≤ 1000000 → ShortI xs → Below w.heap.size w W → Calls Try.prog 9 #[r, .slice qa qn qc, vV x] W fun e w' => ∃ q, e = .returned q ∧ refsIn w' q us ∧ Below W.heap.size W w') := by
        have h := fun r xs W (h1 : itsE W r xs) (h2 : xs.map (·.1) = its) (h3 : xs.length ≤ 1000000) (h4 : ShortI xs) (hb : Below w.heap.size w W) => refAdds_its h1 h2 (HP.out W hb) h3 hpn h4 x
        rw [← hus] at h
        exact h
      have C15 : Hid (∀ r xs W, itsE W r xs → xs.map (·.1) = its → xs.length ≤ 1000000 → ShortI xs → Below w.heap.size w W → Calls Try.prog 15 #[r, .slice qa qn qc, vV x] W fun e w' => e = .returned (.bool (decide ((0 : Int) < (us.length : Int)))) ∧ Below W.heap.size W w') := by
        have h := fun r xs W (h1 : itsE W r xs) (h2 : xs.map (·.1) = its) (h3 : xs.length ≤ 1000000) (h4 : ShortI xs) (hb : Below w.heap.size w W) => has_its h1 h2 (HP.out W hb) h3 h4 x
        rw [← hus, show decide (0 < us.length) = decide ((0 : Int) < (us.length : Int)) from decide_eq_decide.2 ⟨fun h => by omega, fun h => by omega⟩] at h
        exact h
      clear hbv hus
      have hEb := eqb_same (decide ((0 : Int) < (us.length : Int)))
      go_enter Try.func3, Try.ntmps3
      go_wp2_with (first
        | (go_at_call 4; rw [← hW0]; refine HG.mono ?_; rintro e w1 ⟨rfl, hb1⟩; have k1 := bchain B0 hb1)
        | (go_at_call 5; refine (HS _ k1).mono ?_; rintro e w2 ⟨rfl, hb2⟩; have k2 := bchain k1 hb2)
        | (go_at_call 7; refine (HX.out _ k2).mono ?_; rintro e w3 ⟨rx, xs, rfl, hx, hxe, hxs, hxn, hb3⟩; have k3 := bchain k2 hb3)
        | (go_at_call 8; refine (HY.out _ k3).mono ?_; rintro e w4 ⟨ry, ys, rfl, hy, hye, hys, hyn, hb4⟩; have k4 := bchain k3 hb4; have hx4 := hx.on hb4; have m4 := bchain hb1 (bchain hb2 (bchain hb3 hb4)); obtain ⟨x0, x1, x2, -, -, -⟩ := V0.on m4)
        | (go_at_call 9; refine (C9.out _ ys _ hy hye hyn hys k4).mono ?_; rintro e w5 ⟨q5, rfl, h5, hb5⟩; obtain ⟨o5, c5, e5, -, -, -⟩ := id h5; subst e5)
        | (go_at_call 11; refine (C11.out _ xs _ (hx4.on hb5) hxe hxn hxs (bchain k4 hb5)).mono ?_; rintro e w6 ⟨q6, rfl, h6, hb6⟩; have j6 := bchain hb5 hb6)
        | (go_at_call 12; refine (C12.out _ ys _ (hy.on j6) hye hyn hys (bchain k4 j6)).mono ?_; rintro e w7 ⟨q7, rfl, h7, hb7⟩; have j7 := bchain j6 hb7)
        | (go_at_call 10; refine (sameV_any _ _ bv _ (h6.on hb7) h7 (Nat.le_trans hbn.out (by rw [← hxe, List.length_map]; exact hxn))).mono ?_; rintro e w8 ⟨rfl, hb8⟩; have j8 := bchain j7 hb8; obtain ⟨y0, y1, y2, -, -, -⟩ := V0.on (bchain m4 j8))
        | (go_at_call 14; refine (C14.out _ xs _ (hx4.on j8) hxe hxn hxs (bchain k4 j8)).mono ?_; rintro e w9 ⟨q9, rfl, h9, hb9⟩; have j9 := bchain j8 hb9)
        | (go_at_call 13; refine (sameRefs_any _ _ us _ h9 (h5.on (bchain hb6 (bchain hb7 (bchain hb8 hb9)))) (Nat.le_trans hun.out (by rw [← hxe, List.length_map]; exact hxn))).mono ?_; rintro e wA ⟨rfl, hbA⟩; have jA := bchain j9 hbA; obtain ⟨z0, z1, z2, -, -, -⟩ := V0.on (bchain m4 jA))
        | (go_at_call 15; refine (C15.out _ xs _ (hx4.on jA) hxe hxn hxs (bchain k4 jA)).mono ?_; rintro e wB ⟨rfl, hbB⟩; have jB := bchain jA hbB)
        | (go_at_call 6; refine (awake_any _).mono ?_; rintro e wG ⟨rfl, hbG⟩))
      go_ret
      exact ⟨rfl, bchain k4 (bchain jB hbG)⟩
theorem bagTells_walk (v : Value) (ts : List Tx.Txn) (vu : Value) (u : List U) (vp : Value) (p : List (List UInt8)) (k n : Int) (l : List UInt8) (w : World) (hw : ∀ t ∈ ts, txWide t) (hv : txsIn w v ts) (hu : T.cntsIn w vu u) (hpl : p.length ≤ maxLen) (hpz : ∀ x ∈ p, x.length ≤ maxLen) (hp : U.strsAt w vp p) :
    Calls Try.prog 3 #[v, vu, vp, valV k n l] w fun e w' => e = .returned (.bool true) ∧ Below w.heap.size w w' := bagTells_any v ts vu u vp p (k, n, l) w hw hv hu hpl hpz hp
end Go.Proofs.Ytjbbhfkbhpagbaa.O
