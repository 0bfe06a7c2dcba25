/- The walk of the statement TreeEmpty. -/
import Derived.Test.YtmnehekcealjhaaGreatTItsR
import Derived.Test.YtmnehekcealjhaaGreatSameRAll
namespace Go.Proofs.YtmnehekcealjhaaGreat.O
open Go.RowKit

theorem its_nil (w : World) : ItsAt [] w (.slice none 0 0) := ⟨[], itsE_nil w, rfl, fun x hx => by simp at hx, by simp⟩
theorem under_none {its : List Lv.Item} {p : List (List UInt8)} (h : (its.filter fun i => Pt.under i.o.p p).length = 0) : (Tr.keys its p).length = 0 ∧ (Tr.kinds its p).length = 0 := by
  have h0 := List.eq_nil_of_length_eq_zero h
  have h1 : ∀ i ∈ its, Pt.under i.o.p p = false := fun i hi => by
    cases e : Pt.under i.o.p p with
    | false => rfl
    | true =>
      have : i ∈ its.filter fun i => Pt.under i.o.p p := List.mem_filter.2 ⟨hi, e⟩
      rw [h0] at this
      simp at this
  obtain ⟨a, b⟩ := Tr.none_under h1
  rw [a, b]
  exact ⟨rfl, rfl⟩
theorem under_some {its : List Lv.Item} {p : List (List UInt8)} (ha : ∀ i ∈ its, Lv.able i.o.k = true) (h : 0 < (its.filter fun i => Pt.under i.o.p p).length) : 0 < (Tr.keys its p).length + (Tr.kinds its p).length ∧ 0 < (Tr.leaves (its.filter fun i => Pt.under i.o.p p)).length := by
  obtain ⟨i, hi⟩ := List.exists_mem_of_length_pos h
  obtain ⟨h1, h2⟩ := List.mem_filter.1 hi
  refine ⟨Tr.some_under h1 (ha i h1) h2, List.length_pos_iff.2 (Tr.leaves_some fun e => ?_)⟩
  rw [e] at h
  simp at h

set_option maxRecDepth 20000 in
set_option maxHeartbeats 4000000 in
theorem treeEmpty_walk (v : Value) (ts : List Tx.Txn) (vu : Value) (u : List U) (vp : Value) (p : List (List UInt8)) (w : World) (hw : ∀ t ∈ ts, txWide t) (hv : txsIn w v ts) (hu : T.cntsIn w vu u) (hpl : p.length ≤ maxLen) (hpz : ∀ x ∈ p, x.length ≤ maxLen) (hp : U.strsAt w vp p) :
    Calls Tryz.prog 4 #[v, vu, vp] w fun e w' => e = .returned (.bool true) ∧ Below w.heap.size w w' := by
  have HG := good_any v vu ts u w hw hv hu
  have HS := fun W (hb : Below w.heap.size w W) => U.short_any vp p W hpl hpz (U.strsAt_below hp hb (Nat.le_refl _))
  obtain ⟨ao, cap, rfl⟩ := txs_slice hv
  obtain ⟨uo, uc, rfl⟩ := cnts_slice hu
  obtain ⟨qa, qn, qc, rfl⟩ := strs_slice hp
  cases hg : good13 ts u with
  | false =>
    rw [hg] at HG
    clear hv hu hp hw hpl hpz HS
    generalize ts.length = n at *
    generalize u.length = m at *
    go_enter Tryz.func4, Tryz.ntmps4
    go_wp2_with (first
      | (go_at_call 5; refine HG.mono ?_; rintro e w1 ⟨rfl, hb1⟩)
      | (go_at_call 7; refine (awake_any _).mono ?_; rintro e w2 ⟨rfl, hb2⟩))
    go_ret
    exact ⟨rfl, bchain hb1 hb2⟩
  | true =>
    rw [hg] at HG
    cases hs : Pt.short p with
    | false =>
      rw [hs] at HS
      clear hv hu hp hw hpl hpz
      generalize ts.length = n at *
      generalize u.length = m at *
      go_enter Tryz.func4, Tryz.ntmps4
      go_wp2_with (first
        | (go_at_call 5; refine HG.mono ?_; rintro e w1 ⟨rfl, hb1⟩)
        | (go_at_call 6; refine (HS _ hb1).mono ?_; rintro e w3 ⟨rfl, hb3⟩)
        | (go_at_call 7; refine (awake_any _).mono ?_; rintro e w2 ⟨rfl, hb2⟩))
      go_ret
      exact ⟨rfl, bchain hb1 (bchain hb3 hb2)⟩
    | true =>
      rw [hs] at HS
      obtain ⟨⟨h20, hr, hok⟩, h100, hstd⟩ := good13_parts hg
      have hps := (Pt.short_iff hs).1
      have HX : Hid (AllC 8 w (.slice ao ts.length cap) (.slice uo u.length uc) (Lv.all ts (seenD u))) := allC hv hu (by omega) hok (by omega) hstd
      have HP : Hid (∀ W, Below w.heap.size w W → U.strsAt W (.slice qa qn qc) p) := by
        have h := fun W (hb : Below w.heap.size w W) => U.strsAt_below hp hb (Nat.le_refl _)
        exact h
      have hpn : Hid (p.length ≤ 2000000) := by
        have h : p.length ≤ 2000000 := by omega
        exact h
      have hab : Hid (∀ i ∈ Lv.all ts (seenD u), Lv.able i.o.k = true) := all_able
      have hln : (Lv.all ts (seenD u)).length ≤ 1000000 := Nat.le_trans (Lv.allBy_len (B := 1000) fun t ht => (okT_few (hok t ht)).1) (by omega)
      generalize Lv.all ts (seenD u) = its at *
      have hkl : (Tr.keys its p).length ≤ 1000000 := by
        unfold Tr.keys
        have h1 := Li.vals_len (comp := Lib.compareBytes) (its.filterMap (Tr.next p))
        have h2 := fm_len (Tr.next p) its
        omega
      have hk3 := kinds_len its p
      obtain ⟨j, hj0⟩ : ∃ j, j = (Tr.keys its p).length := ⟨_, rfl⟩
      obtain ⟨k, hk0⟩ : ∃ k, k = (Tr.kinds its p).length := ⟨_, rfl⟩
      obtain ⟨n9, hn0⟩ : ∃ n9, n9 = (its.filter fun i => Pt.under i.o.p p).length := ⟨_, rfl⟩
      obtain ⟨l, hl0⟩ : ∃ l, l = (Tr.leaves (its.filter fun i => Pt.under i.o.p p)).length := ⟨_, rfl⟩
      have HJ : Hid (j = (Tr.keys its p).length) := hj0
      have HK : Hid (k = (Tr.kinds its p).length) := hk0
      have HN : Hid (n9 = (its.filter fun i => Pt.under i.o.p p).length) := hn0
      have HL : Hid (l = (Tr.leaves (its.filter fun i => Pt.under i.o.p p)).length) := hl0
      have hE0 : n9 = 0 → j = 0 ∧ k = 0 := fun q => by rw [hj0, hk0]; exact under_none (by rw [← hn0]; exact q)
      have hE1 : 0 < n9 → 0 < j + k ∧ 0 < l := fun q => by rw [hj0, hk0, hl0]; exact under_some hab.out (by rw [← hn0]; exact q)
      rw [← hj0] at hkl
      rw [← hk0] at hk3
      clear hv hu hp hw hpl hpz hg hs h20 hr hok h100 hstd hps hln hj0 hk0 hn0 hl0
      generalize ts.length = n at *
      generalize u.length = m at *
      have C10 : Hid (∀ r W, ItsAt its W r → Below w.heap.size w W → Calls Tryz.prog 10 #[r, .slice qa qn qc] W fun e w' => ∃ ka kc, e = .returned (.slice ka k kc) ∧ Below W.heap.size W w') := by
        have h : ∀ r W, ItsAt its W r → Below w.heap.size w W → Calls Tryz.prog 10 #[r, .slice qa qn qc] W fun e w' => ∃ ka kc, e = .returned (.slice ka k kc) ∧ Below W.heap.size W w' := fun r W h1 hb =>
          (kinds_at h1 (HP.out W hb) hab.out).mono fun e w' ⟨q, e1, e2, e3⟩ => by
            obtain ⟨ka, kc, rfl, _⟩ := id e2
            rw [← HK.out] at e1
            exact ⟨ka, kc, e1, e3⟩
        exact h
      have C16 : Hid (∀ r W, ItsAt its W r → Below w.heap.size w W → Calls Tryz.prog 16 #[r, .slice qa qn qc] W fun e w' => ∃ ka kc, e = .returned (.slice ka j kc) ∧ Below W.heap.size W w') := by
        have h : ∀ r W, ItsAt its W r → Below w.heap.size w W → Calls Tryz.prog 16 #[r, .slice qa qn qc] W fun e w' => ∃ ka kc, e = .returned (.slice ka j kc) ∧ Below W.heap.size W w' := fun r W h1 hb =>
          (keys_at h1 (HP.out W hb) hpn.out).mono fun e w' ⟨q, e1, e2, e3⟩ => by
            obtain ⟨ka, kc, rfl, _⟩ := id e2
            rw [← HJ.out] at e1
            exact ⟨ka, kc, e1, e3⟩
        exact h
      have C18 : Hid (∀ r W, ItsAt its W r → Below w.heap.size w W → Calls Tryz.prog 18 #[r, .slice qa qn qc] W fun e w' => ∃ ua uc, e = .returned (.slice ua n9 uc) ∧ Hid (ItsAt (its.filter fun i => Pt.under i.o.p p) w' (.slice ua n9 uc)) ∧ Below W.heap.size W w') := by
        have h : ∀ r W, ItsAt its W r → Below w.heap.size w W → Calls Tryz.prog 18 #[r, .slice qa qn qc] W fun e w' => ∃ ua uc, e = .returned (.slice ua n9 uc) ∧ Hid (ItsAt (its.filter fun i => Pt.under i.o.p p) w' (.slice ua n9 uc)) ∧ Below W.heap.size W w' := fun r W h1 hb =>
          (under_at h1 (HP.out W hb) hpn.out).mono fun e w' ⟨q, e1, e2, e3⟩ => by
            obtain ⟨ua, uc, rfl⟩ := e2.slice
            rw [← HN.out] at e1 e2
            exact ⟨ua, uc, e1, e2, e3⟩
        exact h
      have C13 : Hid (∀ r W, ItsAt (its.filter fun i => Pt.under i.o.p p) W r → Calls Tryz.prog 13 #[r] W fun e w' => ∃ ua uc, e = .returned (.slice ua l uc) ∧ Below W.heap.size W w') := by
        have h : ∀ r W, ItsAt (its.filter fun i => Pt.under i.o.p p) W r → Calls Tryz.prog 13 #[r] W fun e w' => ∃ ua uc, e = .returned (.slice ua l uc) ∧ Below W.heap.size W w' := fun r W h1 =>
          (leaves_at9 h1).mono fun e w' ⟨q, e1, e2, e3⟩ => by
            obtain ⟨ua, uc, rfl⟩ := e2.slice
            rw [← HL.out] at e1
            exact ⟨ua, uc, e1, e3⟩
        exact h
      have C13n : ∀ W, Calls Tryz.prog 13 #[.slice none 0 0] W fun e w' => ∃ ua uc, e = .returned (.slice ua 0 uc) ∧ Below W.heap.size W w' := fun W =>
        (leaves_at9 (its_nil W)).mono fun e w' ⟨q, e1, e2, e3⟩ => by
          obtain ⟨ua, uc, rfl⟩ := e2.slice
          exact ⟨ua, uc, e1, e3⟩
      have C19n : ∀ W, Calls Tryz.prog 19 #[.slice none 0 0] W fun e w' => e = .returned (.int .i64 0) ∧ Below W.heap.size W w' := fun W => deep_at (its_nil W)
      by_cases h0 : n9 = 0
      · obtain ⟨rfl, rfl⟩ := hE0 h0
        subst h0
        clear hE0 hE1 C13 C13n C19n HJ HK HN HL hkl hk3
        go_enter Tryz.func4, Tryz.ntmps4
        go_wp2_with (first
          | (go_at_call 5; refine HG.mono ?_; rintro e w1 ⟨rfl, hb1⟩)
          | (go_at_call 6; refine (HS _ hb1).mono ?_; rintro e w2 ⟨rfl, hb2⟩; have k2 := bchain hb1 hb2)
          | (go_at_call 8; refine (HX.out _ k2).mono ?_; rintro e w3 ⟨rx, rfl, hx, hb3⟩; have k3 := bchain k2 hb3)
          | (go_at_call 18; refine (C18.out _ _ hx k3).mono ?_; rintro e w4 ⟨ua, uc, rfl, hu4, hb4⟩; have k4 := bchain k3 hb4)
          | (go_at_call 16; refine (C16.out _ _ (hx.on hb4) k4).mono ?_; rintro e w5 ⟨ka, kc, rfl, hb5⟩; have k5 := bchain k4 hb5; have j5 := bchain hb4 hb5)
          | (go_at_call 10; refine (C10.out _ _ (hx.on j5) k5).mono ?_; rintro e w6 ⟨ma, mc, rfl, hb6⟩; have k6 := bchain k5 hb6)
          | (go_at_call 7; refine (awake_any _).mono ?_; rintro e wG ⟨rfl, hbG⟩))
        go_ret
        exact ⟨rfl, bchain k6 hbG⟩
      · obtain ⟨hjk, hl0⟩ := hE1 (by omega)
        have hn1 : ((n9 : Int) == 0) = false := beq_eq_false_iff_ne.2 (by omega)
        have hjk1 : (0 : Int) < (j : Int) + (k : Int) := by omega
        have hl1 : (0 : Int) < (l : Int) := by omega
        have hjw : IntKind.i64.wrap ((j : Int) + (k : Int)) = (j : Int) + (k : Int) := U.wrap_i64 (by omega) (by omega)
        clear hE0 hE1 HJ HK HN HL hjk hl0 hkl hk3
        go_enter Tryz.func4, Tryz.ntmps4
        go_wp2_with (first
          | (go_at_call 5; refine HG.mono ?_; rintro e w1 ⟨rfl, hb1⟩)
          | (go_at_call 6; refine (HS _ hb1).mono ?_; rintro e w2 ⟨rfl, hb2⟩; have k2 := bchain hb1 hb2)
          | (go_at_call 8; refine (HX.out _ k2).mono ?_; rintro e w3 ⟨rx, rfl, hx, hb3⟩; have k3 := bchain k2 hb3)
          | (go_at_call 18; refine (C18.out _ _ hx k3).mono ?_; rintro e w4 ⟨ua, uc, rfl, hu4, hb4⟩; have k4 := bchain k3 hb4)
          | (go_at_call 16; refine (C16.out _ _ (hx.on hb4) k4).mono ?_; rintro e w5 ⟨ka, kc, rfl, hb5⟩; have k5 := bchain k4 hb5; have j5 := bchain hb4 hb5)
          | (go_at_call 10; refine (C10.out _ _ (hx.on j5) k5).mono ?_; rintro e w6 ⟨ma, mc, rfl, hb6⟩; have k6 := bchain k5 hb6; have j6 := bchain hb5 hb6)
          | (go_at_call 13; have k70 := k7; refine (C13n _).mono ?_; rintro e w8 ⟨xa, xc, rfl, hb8⟩; have k8 := bchain k7 hb8)
          | (go_at_call 13; refine (C13.out _ _ (hu4.out.on j6)).mono ?_; rintro e w7 ⟨ya, yc, rfl, hb7⟩; have k7 := bchain k6 hb7)
          | (go_at_call 19; refine (C19n _).mono ?_; rintro e w9 ⟨rfl, hb9⟩; have k9 := bchain k8 hb9)
          | (go_at_call 7; refine (awake_any _).mono ?_; rintro e wG ⟨rfl, hbG⟩))
        go_ret
        exact ⟨rfl, bchain k9 hbG⟩
end Go.Proofs.YtmnehekcealjhaaGreat.O
