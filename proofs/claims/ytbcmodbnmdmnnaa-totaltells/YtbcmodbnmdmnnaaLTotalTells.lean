/- The walk of the statement TotalTells. -/
import Derived.Test.YtbcmodbnmdmnnaaGoodsAll
import Derived.Test.YtbcmodbnmdmnnaaRefAll
namespace Go.Proofs.Ytbcmodbnmdmnnaa.O
open Go.RowKit

/-- The amounts of what counts of good transactions. -/
theorem all_amounts {ts : List Tx.Txn} (h : ∀ t ∈ ts, okT t = true) {sn : D → Bool} : ∀ i ∈ Lv.all ts sn, -2147483647 ≤ i.o.n ∧ i.o.n ≤ 2147483647 := fun i hi => by
  obtain ⟨t, ht, _, j, hj, _, _, e⟩ := Lv.mem_all.1 hi
  rw [e]
  have h1 := (Tx.check_zero (okT_parts (h t ht)).2).2.2.2.2 _ (List.getElem_mem hj)
  show -2147483647 ≤ t.ops[j].n ∧ t.ops[j].n ≤ 2147483647
  rcases h1 with h1 | ⟨_, h1⟩
  · have h2 := (Os.check_zero h1).2.2.2.2.1
    unfold Os.ra at h2
    split at h2
    · have := of_decide_eq_true h2; omega
    · have := of_decide_eq_true h2; omega
  · rw [Os.gone_is h1]
    exact ⟨by decide, by decide⟩
theorem all_small {its : List Lv.Item} (h : ∀ i ∈ its, -2147483647 ≤ i.o.n ∧ i.o.n ≤ 2147483647) {xs : List IE} (he : xs.map (·.1) = its) : SmallN xs := fun x hx => h x.1 (by rw [← he]; exact List.mem_map.2 ⟨x, hx, rfl⟩)
theorem i_range {its : List Lv.Item} (h : ∀ i ∈ its, -2147483647 ≤ i.o.n ∧ i.o.n ≤ 2147483647) (hn : its.length ≤ 1000000) (p : List (List UInt8)) : 0 ≤ upI its p ∧ upI its p ≤ 2147483647000000 ∧ 0 ≤ dnI its p ∧ dnI its p ≤ 2147483647000000 := by
  have h1 := Li.ups_range 2147483647 (by decide) (Tr.nums its p) (Tr.nums_range h p)
  have h0 : (Tr.nums its p).length ≤ its.length := by unfold Tr.nums; rw [List.length_map]; exact List.length_filter_le _ _
  have h2 : ((Tr.nums its p).length : Int) * 2147483647 ≤ 1000000 * 2147483647 := Int.mul_le_mul_of_nonneg_right (by omega) (by decide)
  generalize ((Tr.nums its p).length : Int) * 2147483647 = q at *
  unfold upI dnI
  omega

/-- What All tells, at any world behind the first, whatever was laid since. -/
def AllC (f : FuncId) (w : World) (v vu : Value) (its : List Lv.Item) : Prop := ∀ W, Below w.heap.size w W → Calls Try.prog f #[v, vu] W fun e w' => ∃ r xs, e = .returned r ∧ itsE w' r xs ∧ xs.map (·.1) = its ∧ ShortI xs ∧ xs.length ≤ 1000000 ∧ Below W.heap.size W w'
theorem allC {v vu : Value} {ts : List Tx.Txn} {u : List U} {w : World} (hv : txsIn w v ts) (hu : T.cntsIn w vu u) (hn : ts.length ≤ 1000) (hg : ∀ t ∈ ts, okT t = true) (hun : u.length ≤ 1000000) (hp : Ct.Std u) : AllC 7 w v vu (Lv.all ts (seenD u)) := fun W hb =>
  (all_any v vu ts u W (hv.on hb) (hu.on hb) hn (good_few hg) (good_dots hg) hun hp).mono fun _ _ ⟨r, xs, h1, h2, h3, h4⟩ => ⟨r, xs, h1, h2, h3, all_short hg h3, all_len hn hg h3, h4⟩
theorem refAllC {v vu : Value} {ts : List Tx.Txn} {u : List U} {w : World} (hv : txsIn w v ts) (hu : T.cntsIn w vu u) (hn : ts.length ≤ 1000) (hg : ∀ t ∈ ts, okT t = true) (hun : u.length ≤ 1000000) (hp : Ct.Std u) : AllC 8 w v vu (Lv.all ts (seenD u)) := fun W hb =>
  (refAll_any v vu ts u W (hv.on hb) (hu.on hb) hn (fun t ht => ⟨(okT_few (hg t ht)).1, fun o ho => ((okT_few (hg t ht)).2 o ho).1⟩) hun hp).mono fun _ _ ⟨r, xs, h1, h2, h3, h4⟩ => ⟨r, xs, h1, h2, h3, all_short hg h3, all_len hn hg h3, h4⟩

set_option maxRecDepth 20000 in
set_option maxHeartbeats 4000000 in
theorem totalTells_walk (v : Value) (ts : List Tx.Txn) (vu : Value) (u : List U) (vp : Value) (p : List (List UInt8)) (w : World) (hw : ∀ t ∈ ts, txWide t) (hv : txsIn w v ts) (hu : T.cntsIn w vu u) (hpl : p.length ≤ maxLen) (hpz : ∀ x ∈ p, x.length ≤ maxLen) (hp : U.strsAt w vp p) :
    Calls Try.prog 3 #[v, vu, vp] w fun e w' => e = .returned (.bool true) ∧ Below w.heap.size w w' := by
  have HG := good_any v vu ts u w hw hv hu
  have HS := fun W (hb : Below w.heap.size w W) => U.short_any vp p W hpl hpz (U.strsAt_below hp hb (Nat.le_refl _))
  obtain ⟨ao, cap, rfl⟩ := txs_slice hv
  obtain ⟨uo, uc, rfl⟩ := cnts_slice hu
  obtain ⟨qa, qn, qc, rfl⟩ := strs_slice hp
  cases hg : good13 ts u with
  | false =>
    rw [hg] at HG
    clear hv hu hp hw hpl hpz HS
    generalize ts.length = n at *
    generalize u.length = m at *
    go_enter Try.func3, Try.ntmps3
    go_wp2_with (first
      | (go_at_call 4; refine HG.mono ?_; rintro e w1 ⟨rfl, hb1⟩)
      | (go_at_call 6; refine (awake_any _).mono ?_; rintro e w2 ⟨rfl, hb2⟩))
    go_ret
    exact ⟨rfl, bchain hb1 hb2⟩
  | true =>
    rw [hg] at HG
    cases hs : Pt.short p with
    | false =>
      rw [hs] at HS
      clear hv hu hp hw hpl hpz
      generalize ts.length = n at *
      generalize u.length = m at *
      go_enter Try.func3, Try.ntmps3
      go_wp2_with (first
        | (go_at_call 4; refine HG.mono ?_; rintro e w1 ⟨rfl, hb1⟩)
        | (go_at_call 5; refine (HS _ hb1).mono ?_; rintro e w3 ⟨rfl, hb3⟩)
        | (go_at_call 6; refine (awake_any _).mono ?_; rintro e w2 ⟨rfl, hb2⟩))
      go_ret
      exact ⟨rfl, bchain hb1 (bchain hb3 hb2)⟩
    | true =>
      rw [hs] at HS
      obtain ⟨⟨h20, hr, hok⟩, h100, hstd⟩ := good13_parts hg
      have hps := (Pt.short_iff hs).1
      have HX : Hid (AllC 7 w (.slice ao ts.length cap) (.slice uo u.length uc) (Lv.all ts (seenD u))) := allC hv hu (by omega) hok (by omega) hstd
      have HY : Hid (AllC 8 w (.slice ao ts.length cap) (.slice uo u.length uc) (Lv.all ts (seenD u))) := refAllC hv hu (by omega) hok (by omega) hstd
      have HP : Hid (∀ W, Below w.heap.size w W → U.strsAt W (.slice qa qn qc) p) := by
        have h := fun W (hb : Below w.heap.size w W) => U.strsAt_below hp hb (Nat.le_refl _)
        exact h
      have hpn : p.length ≤ 2000000 := by omega
      have hsm := all_amounts (sn := seenD u) hok
      have hln : (Lv.all ts (seenD u)).length ≤ 1000000 := Nat.le_trans (Lv.allBy_len (B := 1000) fun t ht => (okT_few (hok t ht)).1) (by omega)
      generalize Lv.all ts (seenD u) = its at *
      clear hv hu hp hw hpl hpz hg hs h20 hr hok h100 hstd hps
      generalize ts.length = n at *
      generalize u.length = m at *
      have hrg := i_range hsm hln p
      obtain ⟨a, ha⟩ : ∃ a, a = upI its p := ⟨_, rfl⟩
      obtain ⟨b, hb⟩ : ∃ b, b = dnI its p := ⟨_, rfl⟩
      obtain ⟨c, hc⟩ : ∃ c, c = cnI its p := ⟨_, rfl⟩
      rw [← ha, ← hb] at hrg
      have hw1 : IntKind.i64.wrap (a - b) = a - b := U.wrap_i64 (by omega) (by omega)
      have C9 : Hid (∀ r xs W, itsE W r xs → xs.map (·.1) = its → xs.length ≤ 1000000 → ShortI xs → Below w.heap.size w W → Calls Try.prog 9 #[r, .slice qa qn qc] W fun e w' => e = .returned (.tuple #[.int .i64 a, .int .i64 b, .int .i64 c]) ∧ Below W.heap.size W w') := by
        have h := fun r xs W (h1 : itsE W r xs) (h2 : xs.map (·.1) = its) (h3 : xs.length ≤ 1000000) (h4 : ShortI xs) (hb : Below w.heap.size w W) => refParts_its h1 h2 (HP.out W hb) h3 hpn h4 (all_small hsm h2)
        rw [← ha, ← hb, ← hc] at h
        exact h
      have C10 : Hid (∀ r xs W, itsE W r xs → xs.map (·.1) = its → xs.length ≤ 1000000 → ShortI xs → Below w.heap.size w W → Calls Try.prog 10 #[r, .slice qa qn qc] W fun e w' => e = .returned (.tuple #[.int .i64 a, .int .i64 b]) ∧ Below W.heap.size W w') := by
        have h := fun r xs W (h1 : itsE W r xs) (h2 : xs.map (·.1) = its) (h3 : xs.length ≤ 1000000) (h4 : ShortI xs) (hb : Below w.heap.size w W) => parts_its h1 h2 (HP.out W hb) h3 h4 (all_small hsm h2)
        rw [← ha, ← hb] at h
        exact h
      have C11 : Hid (∀ r xs W, itsE W r xs → xs.map (·.1) = its → xs.length ≤ 1000000 → ShortI xs → Below w.heap.size w W → Calls Try.prog 11 #[r, .slice qa qn qc] W fun e w' => e = .returned (.int .i64 (a - b)) ∧ Below W.heap.size W w') := by
        have h := fun r xs W (h1 : itsE W r xs) (h2 : xs.map (·.1) = its) (h3 : xs.length ≤ 1000000) (h4 : ShortI xs) (hb : Below w.heap.size w W) => sum_its h1 h2 (HP.out W hb) h3 h4 (all_small hsm h2)
        rw [← ha, ← hb] at h
        exact h
      have C12 : Hid (∀ r xs W, itsE W r xs → xs.map (·.1) = its → xs.length ≤ 1000000 → ShortI xs → Below w.heap.size w W → Calls Try.prog 12 #[r, .slice qa qn qc] W fun e w' => e = .returned (.int .i64 c) ∧ Below W.heap.size W w') := by
        have h := fun r xs W (h1 : itsE W r xs) (h2 : xs.map (·.1) = its) (h3 : xs.length ≤ 1000000) (h4 : ShortI xs) (hb : Below w.heap.size w W) => count_its h1 h2 (HP.out W hb) h3 h4
        rw [← hc] at h
        exact h
      clear ha hb hc hrg hsm hln
      go_enter Try.func3, Try.ntmps3
      go_wp2_with (first
        | (go_at_call 4; refine HG.mono ?_; rintro e w1 ⟨rfl, hb1⟩)
        | (go_at_call 5; refine (HS _ hb1).mono ?_; rintro e w2 ⟨rfl, hb2⟩; have k2 := bchain hb1 hb2)
        | (go_at_call 7; refine (HX.out _ k2).mono ?_; rintro e w3 ⟨rx, xs, rfl, hx, hxe, hxs, hxn, hb3⟩; have k3 := bchain k2 hb3)
        | (go_at_call 8; refine (HY.out _ k3).mono ?_; rintro e w4 ⟨ry, ys, rfl, hy, hye, hys, hyn, hb4⟩; have k4 := bchain k3 hb4; have hx4 := hx.on hb4)
        | (go_at_call 9; refine (C9.out _ ys _ hy hye hyn hys k4).mono ?_; rintro e w5 ⟨rfl, hb5⟩)
        | (go_at_call 10; refine (C10.out _ xs _ (hx4.on hb5) hxe hxn hxs (bchain k4 hb5)).mono ?_; rintro e w6 ⟨rfl, hb6⟩; have j6 := bchain hb5 hb6)
        | (go_at_call 11; refine (C11.out _ xs _ (hx4.on j6) hxe hxn hxs (bchain k4 j6)).mono ?_; rintro e w7 ⟨rfl, hb7⟩; have j7 := bchain j6 hb7)
        | (go_at_call 12; refine (C12.out _ xs _ (hx4.on j7) hxe hxn hxs (bchain k4 j7)).mono ?_; rintro e w8 ⟨rfl, hb8⟩; have j8 := bchain j7 hb8)
        | (go_at_call 6; refine (awake_any _).mono ?_; rintro e wG ⟨rfl, hbG⟩))
      go_ret
      exact ⟨rfl, bchain k4 (bchain j8 hbG)⟩
end Go.Proofs.Ytbcmodbnmdmnnaa.O
