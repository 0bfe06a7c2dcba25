/- The walk of the statement TreeTells. -/
import Derived.Test.YtmnehekcealjhaaGreatTItsR
import Derived.Test.YtmnehekcealjhaaGreatSameRAll
namespace Go.Proofs.YtmnehekcealjhaaGreat.O
open Go.RowKit

theorem keys_len {its : List Lv.Item} {p : List (List UInt8)} : (Tr.keys its p).length ≤ its.length := by
  unfold Tr.keys
  exact Nat.le_trans (Li.vals_len _) (fm_len _ _)

set_option maxRecDepth 20000 in
set_option maxHeartbeats 4000000 in
theorem treeTells_walk (v : Value) (ts : List Tx.Txn) (vu : Value) (u : List U) (vp : Value) (p : List (List UInt8)) (w : World) (hw : ∀ t ∈ ts, txWide t) (hv : txsIn w v ts) (hu : T.cntsIn w vu u) (hpl : p.length ≤ maxLen) (hpz : ∀ x ∈ p, x.length ≤ maxLen) (hp : U.strsAt w vp p) :
    Calls Tryz.prog 3 #[v, vu, vp] w fun e w' => e = .returned (.bool true) ∧ Below w.heap.size w w' := by
  have HG := good_any v vu ts u w hw hv hu
  have HS := fun W (hb : Below w.heap.size w W) => U.short_any vp p W hpl hpz (U.strsAt_below hp hb (Nat.le_refl _))
  obtain ⟨ao, cap, rfl⟩ := txs_slice hv
  obtain ⟨uo, uc, rfl⟩ := cnts_slice hu
  obtain ⟨qa, qn, qc, rfl⟩ := strs_slice hp
  cases hg : good13 ts u with
  | false =>
    rw [hg] at HG
    clear hv hu hp hw hpl hpz HS
    generalize ts.length = n at *
    generalize u.length = m at *
    go_enter Tryz.func3, Tryz.ntmps3
    go_wp2_with (first
      | (go_at_call 5; refine HG.mono ?_; rintro e w1 ⟨rfl, hb1⟩)
      | (go_at_call 7; refine (awake_any _).mono ?_; rintro e w2 ⟨rfl, hb2⟩))
    go_ret
    exact ⟨rfl, bchain hb1 hb2⟩
  | true =>
    rw [hg] at HG
    cases hs : Pt.short p with
    | false =>
      rw [hs] at HS
      clear hv hu hp hw hpl hpz
      generalize ts.length = n at *
      generalize u.length = m at *
      go_enter Tryz.func3, Tryz.ntmps3
      go_wp2_with (first
        | (go_at_call 5; refine HG.mono ?_; rintro e w1 ⟨rfl, hb1⟩)
        | (go_at_call 6; refine (HS _ hb1).mono ?_; rintro e w3 ⟨rfl, hb3⟩)
        | (go_at_call 7; refine (awake_any _).mono ?_; rintro e w2 ⟨rfl, hb2⟩))
      go_ret
      exact ⟨rfl, bchain hb1 (bchain hb3 hb2)⟩
    | true =>
      rw [hs] at HS
      obtain ⟨⟨h20, hr, hok⟩, h100, hstd⟩ := good13_parts hg
      have hps := (Pt.short_iff hs).1
      have HX : Hid (AllC 8 w (.slice ao ts.length cap) (.slice uo u.length uc) (Lv.all ts (seenD u))) := allC hv hu (by omega) hok (by omega) hstd
      have HY : Hid (AllC 9 w (.slice ao ts.length cap) (.slice uo u.length uc) (Lv.all ts (seenD u))) := refAllC hv hu (by omega) hok (by omega) hstd
      have HP : Hid (∀ W, Below w.heap.size w W → U.strsAt W (.slice qa qn qc) p) := by
        have h := fun W (hb : Below w.heap.size w W) => U.strsAt_below hp hb (Nat.le_refl _)
        exact h
      have hpn : Hid (p.length ≤ 2000000) := by
        have h : p.length ≤ 2000000 := by omega
        exact h
      have hab : Hid (∀ i ∈ Lv.all ts (seenD u), Lv.able i.o.k = true) := all_able
      have hln : (Lv.all ts (seenD u)).length ≤ 1000000 := Nat.le_trans (Lv.allBy_len (B := 1000) fun t ht => (okT_few (hok t ht)).1) (by omega)
      generalize Lv.all ts (seenD u) = its at *
      have hkl : Hid ((Tr.keys its p).length ≤ 2000000) := by
        have h : (Tr.keys its p).length ≤ 2000000 := by have := keys_len (its := its) (p := p); omega
        exact h
      have hk3 := kinds_len its p
      obtain ⟨K, hK⟩ : ∃ K, K = Tr.kinds its p := ⟨_, rfl⟩
      have HKe : Hid (K = Tr.kinds its p) := hK
      rw [← hK] at hk3
      obtain ⟨j, hj0⟩ : ∃ j, j = K.length := ⟨_, rfl⟩
      have HJ : Hid (j = K.length) := hj0
      rw [← hj0] at hk3
      clear hv hu hp hw hpl hpz hg hs h20 hr hok h100 hstd hps hln hK hj0
      generalize ts.length = n at *
      generalize u.length = m at *
      have C10 : Hid (∀ r W, ItsAt its W r → Below w.heap.size w W → Calls Tryz.prog 10 #[r, .slice qa qn qc] W fun e w' => ∃ ka kc, e = .returned (.slice ka j kc) ∧ rowsIn w' ncell (.slice ka j kc) K ∧ Below W.heap.size W w') := by
        have h : ∀ r W, ItsAt its W r → Below w.heap.size w W → Calls Tryz.prog 10 #[r, .slice qa qn qc] W fun e w' => ∃ ka kc, e = .returned (.slice ka j kc) ∧ rowsIn w' ncell (.slice ka j kc) K ∧ Below W.heap.size W w' := fun r W h1 hb =>
          (kinds_at h1 (HP.out W hb) hab.out).mono fun e w' ⟨q, e1, e2, e3⟩ => by
            rw [← HKe.out] at e2
            obtain ⟨ka, kc, rfl, _⟩ := id e2
            rw [← HJ.out] at e1 e2
            exact ⟨ka, kc, e1, e2, e3⟩
        exact h
      have C11 : Hid (∀ r W, ItsAt its W r → Below w.heap.size w W → Calls Tryz.prog 11 #[r, .slice qa qn qc] W fun e w' => ∃ ka kc, e = .returned (.slice ka j kc) ∧ rowsIn w' ncell (.slice ka j kc) K ∧ Below W.heap.size W w') := by
        have h : ∀ r W, ItsAt its W r → Below w.heap.size w W → Calls Tryz.prog 11 #[r, .slice qa qn qc] W fun e w' => ∃ ka kc, e = .returned (.slice ka j kc) ∧ rowsIn w' ncell (.slice ka j kc) K ∧ Below W.heap.size W w' := fun r W h1 hb =>
          (refKinds_at h1 (HP.out W hb) hpn.out).mono fun e w' ⟨q, e1, e2, e3⟩ => by
            rw [← HKe.out] at e2
            obtain ⟨ka, kc, rfl, _⟩ := id e2
            rw [← HJ.out] at e1 e2
            exact ⟨ka, kc, e1, e2, e3⟩
        exact h
      have C16 : Hid (∀ r W, ItsAt its W r → Below w.heap.size w W → Calls Tryz.prog 16 #[r, .slice qa qn qc] W fun e w' => ∃ q, e = .returned q ∧ U.strsAt w' q (Tr.keys its p) ∧ Below W.heap.size W w') := by
        have h := fun r W (h1 : ItsAt its W r) (hb : Below w.heap.size w W) => keys_at h1 (HP.out W hb) hpn.out
        exact h
      have C17 : Hid (∀ r W, ItsAt its W r → Below w.heap.size w W → Calls Tryz.prog 17 #[r, .slice qa qn qc] W fun e w' => ∃ q, e = .returned q ∧ U.strsAt w' q (Tr.keys its p) ∧ Below W.heap.size W w') := by
        have h := fun r W (h1 : ItsAt its W r) (hb : Below w.heap.size w W) => refKeys_at h1 (HP.out W hb)
        exact h
      have C15 : Hid (∀ va vb W, U.strsAt W va (Tr.keys its p) → U.strsAt W vb (Tr.keys its p) → Calls Tryz.prog 15 #[va, vb] W fun e w' => e = .returned (.bool true) ∧ Below W.heap.size W w') := by
        have h : ∀ va vb W, U.strsAt W va (Tr.keys its p) → U.strsAt W vb (Tr.keys its p) → Calls Tryz.prog 15 #[va, vb] W fun e w' => e = .returned (.bool true) ∧ Below W.heap.size W w' := fun va vb W h1 h2 => by
          have h := U.same_any va vb _ _ W hkl.out h1 h2
          rw [show decide (Tr.keys its p = Tr.keys its p) = true by simp] at h
          exact h
        exact h
      go_enter Tryz.func3, Tryz.ntmps3
      go_wp2_with (first
        | (go_at_call 5; refine HG.mono ?_; rintro e w1 ⟨rfl, hb1⟩)
        | (go_at_call 6; refine (HS _ hb1).mono ?_; rintro e w2 ⟨rfl, hb2⟩; have k2 := bchain hb1 hb2)
        | (go_at_call 8; refine (HX.out _ k2).mono ?_; rintro e w3 ⟨rx, rfl, hx, hb3⟩; have k3 := bchain k2 hb3)
        | (go_at_call 9; refine (HY.out _ k3).mono ?_; rintro e w4 ⟨ry, rfl, hy, hb4⟩; have k4 := bchain k3 hb4; have hx4 := hx.on hb4)
        | (go_at_call 10; refine (C10.out _ _ hx4 k4).mono ?_; rintro e w5 ⟨ka, kc, rfl, hA5, hb5⟩; have k5 := bchain k4 hb5; have hy5 := hy.on hb5; have hx5 := hx4.on hb5)
        | (go_at_call 11; refine (C11.out _ _ hy5 k5).mono ?_; rintro e w6 ⟨ma, mc, rfl, hB6, hb6⟩; have k6 := bchain k5 hb6; have hy6 := hy5.on hb6; have hx6 := hx5.on hb6; have hA6 := hA5.on hb6)
        | (go_at_call 13; refine (leaves_at9 hx6).mono ?_; rintro e w7 ⟨la, rfl, hL7, hb7⟩; have k7 := bchain k6 hb7)
        | (go_at_call 14; refine (refLeaves_at (hy6.on hb7)).mono ?_; rintro e w8 ⟨lb, rfl, hM8, hb8⟩; have k8 := bchain k7 hb8)
        | (go_at_call 12; refine (same_at (hL7.on hb8) hM8).mono ?_; rintro e w9 ⟨rfl, hb9⟩; have j9 := bchain hb7 (bchain hb8 hb9); have k9 := bchain k6 j9)
        | (go_at_call 16; refine (C16.out _ _ (hx6.on j9) k9).mono ?_; rintro e wa ⟨sa, rfl, hsa, hba⟩; have ja := bchain j9 hba; have ka9 := bchain k6 ja)
        | (go_at_call 17; refine (C17.out _ _ (hy6.on ja) ka9).mono ?_; rintro e wb ⟨sb, rfl, hsb, hbb⟩; have jb := bchain ja hbb)
        | (go_at_call 15; refine (C15.out _ _ _ (U.strsAt_below hsa hbb (Nat.le_refl _)) hsb).mono ?_; rintro e wc ⟨rfl, hbc⟩; have jc := bchain jb hbc))
      have HAr : Hid (rowsIn wc ncell (.slice ka j kc) K) := hA6.on jc
      have HBr : Hid (rowsIn wc ncell (.slice ma j mc) K) := hB6.on jc
      have kc9 := bchain k6 jc
      clear HG HS HX HY C10 C11 C15 C16 C17 hA5 hA6 hB6 hsa hsb
      go_loopw [11] (fun i wr => ∃ k : Nat, k ≤ j ∧ i = .int .i64 k ∧ Below wc.heap.size wc wr) (fun i _ => j - (intOf i).toNat)
      case atStart => exact ⟨0, by omega, rfl, Below.refl _ _⟩
      case round =>
        obtain ⟨k, hk, rfl, hbw⟩ := hrel
        by_cases hkj : k < j
        · have hkx : k < K.length := by rw [← HJ.out]; exact hkj
          obtain ⟨ad, rfl, hA⟩ := num_get (HAr.out.on hbw) hkx
          obtain ⟨bd, rfl, hB⟩ := num_get (HBr.out.on hbw) hkx
          have hi0 : (0 : Int) ≤ (k : Int) := by omega
          have hi1 : (k : Int) < (j : Int) := by omega
          generalize K[k] = z at *
          go_wp2
          go_region
          all_goals
            go_wp2
            go_roundw
            case rel => exact ⟨k + 1, by omega, by go_num, hbw.drew⟩
            case measure => simp [intOf]; omega
        · go_wp2_with (go_at_call 7; refine (awake_any _).mono ?_; rintro e wG ⟨rfl, hbG⟩)
          go_ret
          exact ⟨rfl, bchain kc9 (bchain hbw hbG)⟩
end Go.Proofs.YtmnehekcealjhaaGreat.O
