/- The walk of the statement LiveTells. -/
import Derived.Test.YtbeinicbkbkbpaaAwake
import Derived.Test.YtbeinicbkbkbpaaRefAll
import Derived.Test.YtbeinicbkbkbpaaRefsL
import Derived.Test.YtbeinicbkbkbpaaSames2
namespace Go.Proofs.Ytbeinicbkbkbpaa.O
open Go.RowKit

theorem filter_map9 (P : Lv.Item → Bool) {xs ys : List IE} (h : xs.map (·.1) = ys.map (·.1)) : (xs.filter fun x => P x.1).map (·.1) = (ys.filter fun x => P x.1).map (·.1) := by
  have e : ∀ l : List IE, (l.filter fun x => P x.1).map (·.1) = (l.map (·.1)).filter P := fun l => by
    rw [List.filter_map]
    rfl
  rw [e, e, h]
theorem short_filter {xs : List IE} (h : ShortI xs) (P : IE → Bool) : ShortI (xs.filter P) := fun x hx => h x (List.mem_filter.1 hx).1
theorem map_x {xs ys : List IE} (h : xs.map (·.1) = ys.map (·.1)) : (xs.map fun x => x.1.x) = ys.map fun x => x.1.x := by
  have e : ∀ l : List IE, (l.map fun x => x.1.x) = (l.map (·.1)).map (·.x) := fun l => by rw [List.map_map]; rfl
  rw [e, e, h]
/-- All of what is good, both ways, whatever was laid since. -/
def AllC (f : FuncId) (w : World) (v vu : Value) (its : List Lv.Item) : Prop := ∀ W, Below w.heap.size w W → Calls Try.prog f #[v, vu] W fun e w' => ∃ r xs, e = .returned r ∧ itsE w' r xs ∧ xs.map (·.1) = its ∧ ShortI xs ∧ xs.length ≤ 1000000 ∧ Below W.heap.size W w'
theorem allC {v vu : Value} {ts : List Tx.Txn} {u : List U} {w : World} (hv : txsIn w v ts) (hu : T.cntsIn w vu u) (hn : ts.length ≤ 1000) (hg : ∀ t ∈ ts, okT t = true) (hun : u.length ≤ 1000000) (hp : Ct.Std u) : AllC 11 w v vu (Lv.all ts (seenD u)) := fun W hb =>
  (all_any v vu ts u W (hv.on hb) (hu.on hb) hn (good_few hg) (good_dots hg) hun hp).mono fun _ _ ⟨r, xs, h1, h2, h3, h4⟩ => ⟨r, xs, h1, h2, h3, all_short hg h3, all_len hn hg h3, h4⟩
theorem refAllC {v vu : Value} {ts : List Tx.Txn} {u : List U} {w : World} (hv : txsIn w v ts) (hu : T.cntsIn w vu u) (hn : ts.length ≤ 1000) (hg : ∀ t ∈ ts, okT t = true) (hun : u.length ≤ 1000000) (hp : Ct.Std u) : AllC 12 w v vu (Lv.all ts (seenD u)) := fun W hb =>
  (refAll_any v vu ts u W (hv.on hb) (hu.on hb) hn (fun t ht => ⟨(okT_few (hg t ht)).1, fun o ho => ((okT_few (hg t ht)).2 o ho).1⟩) hun hp).mono fun _ _ ⟨r, xs, h1, h2, h3, h4⟩ => ⟨r, xs, h1, h2, h3, all_short hg h3, all_len hn hg h3, h4⟩

set_option maxRecDepth 20000 in
set_option maxHeartbeats 4000000 in
theorem liveTells_walk (v : Value) (ts : List Tx.Txn) (vu : Value) (u : List U) (vp : Value) (p : List (List UInt8)) (leaf : Int) (w : World) (hw : ∀ t ∈ ts, txWide t) (hv : txsIn w v ts) (hu : T.cntsIn w vu u) (hpl : p.length ≤ maxLen) (hpz : ∀ x ∈ p, x.length ≤ maxLen) (hp : U.strsAt w vp p) :
    Calls Try.prog 3 #[v, vu, vp, .int .i64 leaf] w fun e w' => e = .returned (.bool true) ∧ Below w.heap.size w w' := by
  have HG := good_any v vu ts u w hw hv hu
  have HS := fun W (hb : Below w.heap.size w W) => U.short_any vp p W hpl hpz (U.strsAt_below hp hb (Nat.le_refl _))
  obtain ⟨ao, cap, rfl⟩ := txs_slice hv
  obtain ⟨uo, uc, rfl⟩ := cnts_slice hu
  obtain ⟨qa, qn, qc, rfl⟩ := strs_slice hp
  cases hg : good13 ts u with
  | false =>
    rw [hg] at HG
    clear hv hu hp hw hpl hpz HS
    generalize ts.length = n at *
    generalize u.length = m at *
    go_enter Try.func3, Try.ntmps3
    go_wp2_with (first
      | (go_at_call 8; refine HG.mono ?_; rintro e w1 ⟨rfl, hb1⟩)
      | (go_at_call 10; refine (awake_any _).mono ?_; rintro e w2 ⟨rfl, hb2⟩))
    go_ret
    exact ⟨rfl, bchain hb1 hb2⟩
  | true =>
    rw [hg] at HG
    cases hs : Pt.short p with
    | false =>
      rw [hs] at HS
      clear hv hu hp hw hpl hpz
      generalize ts.length = n at *
      generalize u.length = m at *
      go_enter Try.func3, Try.ntmps3
      go_wp2_with (first
        | (go_at_call 8; refine HG.mono ?_; rintro e w1 ⟨rfl, hb1⟩)
        | (go_at_call 9; refine (HS _ hb1).mono ?_; rintro e w3 ⟨rfl, hb3⟩)
        | (go_at_call 10; refine (awake_any _).mono ?_; rintro e w2 ⟨rfl, hb2⟩))
      go_ret
      exact ⟨rfl, bchain hb1 (bchain hb3 hb2)⟩
    | true =>
      rw [hs] at HS
      obtain ⟨⟨h20, hr, hok⟩, h100, hstd⟩ := good13_parts hg
      have hps := (Pt.short_iff hs).1
      have HX : Hid (AllC 11 w (.slice ao ts.length cap) (.slice uo u.length uc) (Lv.all ts (seenD u))) := allC hv hu (by omega) hok (by omega) hstd
      have HY : Hid (AllC 12 w (.slice ao ts.length cap) (.slice uo u.length uc) (Lv.all ts (seenD u))) := refAllC hv hu (by omega) hok (by omega) hstd
      have HP : Hid (∀ W, Below w.heap.size w W → U.strsAt W (.slice qa qn qc) p) := by
        have h := fun W (hb : Below w.heap.size w W) => U.strsAt_below hp hb (Nat.le_refl _)
        exact h
      have hpn : p.length ≤ 2000000 := by omega
      generalize Lv.all ts (seenD u) = its at *
      clear hv hu hp hw hpl hpz hg hs h20 hr hok h100 hstd hps
      generalize ts.length = n at *
      generalize u.length = m at *
      go_enter Try.func3, Try.ntmps3
      go_wp2_with (first
        | (go_at_call 8; refine HG.mono ?_; rintro e w1 ⟨rfl, hb1⟩)
        | (go_at_call 9; refine (HS _ hb1).mono ?_; rintro e w2 ⟨rfl, hb2⟩; have k2 := bchain hb1 hb2)
        | (go_at_call 11; refine (HX.out _ k2).mono ?_; rintro e w3 ⟨rx, xs, rfl, hx, hxe, hxs, hxn, hb3⟩; have k3 := bchain k2 hb3)
        | (go_at_call 12; refine (HY.out _ k3).mono ?_; rintro e w4 ⟨ry, ys, rfl, hy, hye, hys, hyn, hb4⟩; have k4 := bchain k3 hb4; have hxy := hxe.trans hye.symm; have hx4 := hx.on hb4)
        | (go_at_call 14; refine (at_any _ _ xs p leaf _ (hx4.on hb5) (HP.out _ (bchain k4 hb5)) hxn hxs).mono ?_; rintro e w6 ⟨r6, rfl, h6, hb6⟩)
        | (go_at_call 15; refine (refAt_any _ _ ys p leaf _ (hy.on (bchain hb5 hb6)) (HP.out _ (bchain k4 (bchain hb5 hb6))) hyn hpn hys).mono ?_; rintro e w7 ⟨r7, rfl, h7, hb7⟩; have k7 := bchain hb5 (bchain hb6 hb7))
        | (go_at_call 16; refine (underL_any _ _ xs p _ (hx4.on (bchain k7 hb8)) (HP.out _ (bchain k4 (bchain k7 hb8))) hxn hpn hxs).mono ?_; rintro e w9 ⟨r9, rfl, h9, hb9⟩)
        | (go_at_call 17; refine (refUnderL_any _ _ ys p _ (hy.on (bchain k7 (bchain hb8 hb9))) (HP.out _ (bchain k4 (bchain k7 (bchain hb8 hb9)))) hyn hpn hys).mono ?_; rintro e wA ⟨rA, rfl, hA, hbA⟩; have kA := bchain k7 (bchain hb8 (bchain hb9 hbA)))
        | (go_at_call 13; refine (sameIR_any _ _ (xs.filter fun x => Pt.under x.1.o.p p) (ys.filter fun x => Pt.under x.1.o.p p) _ (h9.on hbA) hA (Nat.le_trans (List.length_filter_le _ _) hxn) (short_filter hxs _) (filter_map9 (fun it => Pt.under it.o.p p) hxy)).mono ?_; rintro e wB ⟨rfl, hbB⟩; have kB := bchain kA hbB)
        | (go_at_call 13; refine (sameIR_any _ _ (xs.filter fun x => isAt p leaf x.1) (ys.filter fun x => isAt p leaf x.1) _ (h6.on hb7) h7 (Nat.le_trans (List.length_filter_le _ _) hxn) (short_filter hxs _) (filter_map9 (isAt p leaf) hxy)).mono ?_; rintro e w8 ⟨rfl, hb8⟩)
        | (go_at_call 13; refine (sameIR_any _ _ xs ys _ hx4 hy hxn hxs hxy).mono ?_; rintro e w5 ⟨rfl, hb5⟩)
        | (go_at_call 19; refine (liveRefs_any _ xs _ (hx4.on kB) hxn).mono ?_; rintro e wC ⟨rC, rfl, hC, hbC⟩)
        | (go_at_call 20; refine (refRefsL_any _ ys _ (hy.on (bchain kB hbC)) hyn).mono ?_; rintro e wD ⟨rD, rfl, hD, hbD⟩)
        | (go_at_call 18; refine (sameRefs_any _ _ (xs.map fun x => x.1.x) _ (hC.on hbD) (by rw [map_x hxy]; exact hD) (by rw [List.length_map]; exact hxn)).mono ?_; rintro e wE ⟨rfl, hbE⟩; have kE := bchain kB (bchain hbC (bchain hbD hbE)))
        | (go_at_call 21; refine (liveSame_any _ _ xs xs _ (hx4.on kE) (hx4.on kE) hxn hxs rfl).mono ?_; rintro e wF ⟨rfl, hbF⟩)
        | (go_at_call 10; refine (awake_any _).mono ?_; rintro e wG ⟨rfl, hbG⟩))
      go_ret
      exact ⟨rfl, bchain k4 (bchain kE (bchain hbF hbG))⟩
end Go.Proofs.Ytbeinicbkbkbpaa.O
