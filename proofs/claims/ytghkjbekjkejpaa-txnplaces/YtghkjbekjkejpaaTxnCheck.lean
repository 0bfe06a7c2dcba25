/- The walks of Check of a transaction, both sides. -/
import Derived.Test.YtghkjbekjkejpaaTxnShort
namespace Go.Proofs.Ytghkjbekjkejpaa.O
open Go.RowKit

theorem opsErr_skip {th : Bool} {l : List Os.Op} {k : Nat} (hk : k < l.length) (h : Os.check l[k] = 0 ∨ (th = true ∧ Os.gone l[k] = true)) : Tx.opsErr th (l.drop k) = Tx.opsErr th (l.drop (k + 1)) := by
  rw [List.drop_eq_getElem_cons hk, Tx.opsErr, if_neg]
  rintro ⟨h1, h2⟩
  rcases h with h | h
  · exact h1 h
  · exact h2 h
theorem opsErr_hit {th : Bool} {l : List Os.Op} {k : Nat} (hk : k < l.length) (h : Os.check l[k] ≠ 0) (h2 : ¬ (th = true ∧ Os.gone l[k] = true)) : Tx.opsErr th (l.drop k) = Os.check l[k] := by
  rw [List.drop_eq_getElem_cons hk, Tx.opsErr, if_pos ⟨h, h2⟩]
theorem opsErr_end {th : Bool} {l : List Os.Op} {k : Nat} (hk : ¬ k < l.length) : Tx.opsErr th (l.drop k) = 0 := by
  rw [List.drop_eq_nil_of_le (by omega)]
  rfl
theorem ret_nat {a b : Nat} (h : a = b) : (Ending.returned (.int .i64 (a : Int))) = .returned (.int .i64 (b : Int)) := by rw [h]

set_option maxRecDepth 20000 in
set_option maxHeartbeats 4000000 in
theorem checkOps_any (t : Tx.Txn) (ov : Value) (w : World) (hsh : ∀ o ∈ t.ops, Os.short o = true) (hn : t.ops.length ≤ 1000000) (ho : opsIn w ov t.ops) :
    Calls Try.prog 30 #[txV t ov] w fun e w' => e = .returned (.int .i64 (Tx.opsErr t.thin t.ops : Nat)) ∧ Below w.heap.size w w' := by
  obtain ⟨ao, cap, rfl⟩ := ho.slice
  obtain ⟨m, hm⟩ : ∃ m, m = t.ops.length := ⟨_, rfl⟩
  have HM : Hid (m = t.ops.length) := hm
  rw [← hm] at ho hn ⊢
  have HO : Hid (opsIn w (.slice ao m cap) t.ops) := ho
  have HW : Hid (∀ o ∈ t.ops, Os.short o = true) := hsh
  have B0 := below_new w (txO t (.slice ao m cap))
  have O0 := TAt.new w t (.slice ao m cap)
  obtain ⟨W0, hW0⟩ : ∃ W0, W0 = w.alloc (txO t (.slice ao m cap)) := ⟨_, rfl⟩
  rw [← hW0] at B0 O0
  clear ho hsh hm
  have HE : Hid (Tx.opsErr t.thin t.ops = Tx.opsErr t.thin (t.ops.drop 0)) := by
    have h : Tx.opsErr t.thin t.ops = Tx.opsErr t.thin (t.ops.drop 0) := by rw [List.drop_zero]
    exact h
  go_enter Try.func30, Try.ntmps30
  go_wp2
  rw [← hW0]
  clear hW0
  go_loopw [4, 5, 9] (fun _ _ i wr => ∃ k : Nat, k ≤ m ∧ i = .int .i64 k ∧ Hid (Tx.opsErr t.thin t.ops = Tx.opsErr t.thin (t.ops.drop k)) ∧ Below W0.heap.size W0 wr) (fun _ _ i _ => m - (intOf i).toNat)
  case atStart => exact ⟨0, by omega, rfl, HE, Below.refl _ _⟩
  case round =>
    clear HE
    obtain ⟨k, hk, rfl, HS, hbw⟩ := hrel
    by_cases hlt : k < m
    · have hkx : k < t.ops.length := by have := HM.out; omega
      obtain ⟨ad, pv, sv, rfl, hA, hp, hs⟩ := (HO.out.on (bchain B0 hbw)).get hkx
      obtain ⟨pa, pn, pc, rfl⟩ := strs_slice hp
      obtain ⟨sa, sn, sc, rfl⟩ := refs_slice hs
      obtain ⟨a0, a1, a2, a3, a4, a5, a6⟩ := hA
      have hsh := HW.out _ (List.getElem_mem hkx)
      have hi0 : (0 : Int) ≤ (k : Int) := by omega
      have hi1 : (k : Int) < (m : Int) := by omega
      have Cc := fun W (hb : Below wr.heap.size wr W) => ocheck _ (.slice pa pn pc) (.slice sa sn sc) W hsh (U.strsAt_below hp hb (Nat.le_refl _)) (hs.on hb)
      have Cg := fun W (hb : Below wr.heap.size wr W) => ogone _ (.slice pa pn pc) (.slice sa sn sc) W hsh (U.strsAt_below hp hb (Nat.le_refl _)) (hs.on hb)
      have HK : Hid ((Os.check t.ops[k] = 0 ∨ (t.thin = true ∧ Os.gone t.ops[k] = true)) → Tx.opsErr t.thin t.ops = Tx.opsErr t.thin (t.ops.drop (k + 1))) := by
        have h : (Os.check t.ops[k] = 0 ∨ (t.thin = true ∧ Os.gone t.ops[k] = true)) → Tx.opsErr t.thin t.ops = Tx.opsErr t.thin (t.ops.drop (k + 1)) := fun h => HS.out.trans (opsErr_skip hkx h)
        exact h
      have HH : Hid (Os.check t.ops[k] ≠ 0 → ¬ (t.thin = true ∧ Os.gone t.ops[k] = true) → Tx.opsErr t.thin t.ops = Os.check t.ops[k]) := by
        have h : Os.check t.ops[k] ≠ 0 → ¬ (t.thin = true ∧ Os.gone t.ops[k] = true) → Tx.opsErr t.thin t.ops = Os.check t.ops[k] := fun h h2 => HS.out.trans (opsErr_hit hkx h h2)
        exact h
      clear hsh hp hs HS
      generalize t.ops[k] = x at *
      have V0 := OAt.new wr x.k (.slice pa pn pc) x.vk x.vn x.vs x.n (.slice sa sn sc)
      have b0 := below_new wr (oO x (.slice pa pn pc) (.slice sa sn sc))
      have T0 := O0.on (bchain hbw b0)
      obtain hth | hth : t.thin = true ∨ t.thin = false := by cases t.thin <;> simp
      · obtain ⟨-, -, -, -, c4, -⟩ := id T0
        rw [hth] at c4
        cases hg : Os.gone x with
        | true =>
          have HE : Hid (Tx.opsErr t.thin t.ops = Tx.opsErr t.thin (t.ops.drop (k + 1))) := by have h := HK.out (.inr ⟨hth, hg⟩); exact h
          rw [hg] at Cg
          clear HK HH Cc T0 hth hg
          go_wp2_with (go_at_call 53; refine (Cg _ b0).mono ?_; rintro e w1 ⟨rfl, hb1⟩)
          go_roundw
          case rel => exact ⟨k + 1, by omega, by go_num, HE, bchain hbw (bchain b0 hb1)⟩
          case measure => simp [intOf]; omega
        | false =>
          rw [hg] at Cg
          by_cases hc : Os.check x = 0
          · have HE : Hid (Tx.opsErr t.thin t.ops = Tx.opsErr t.thin (t.ops.drop (k + 1))) := by have h := HK.out (.inl hc); exact h
            rw [hc] at Cc
            clear HK HH T0 hth hg hc
            go_wp2_with (first
              | (go_at_call 53; refine (Cg _ b0).mono ?_; rintro e w1 ⟨rfl, hb1⟩; obtain ⟨d0, d1, d2, d3, d4, d5, d6⟩ := V0.on hb1)
              | (go_at_call 54; refine (Cc _ (bchain b0 hb1)).mono ?_; rintro e w2 ⟨rfl, hb2⟩))
            go_roundw
            case rel => exact ⟨k + 1, by omega, by go_num, HE, bchain hbw (bchain (bchain b0 hb1) hb2)⟩
            case measure => simp [intOf]; omega
          · have HE : Hid (Tx.opsErr t.thin t.ops = Os.check x) := by have h := HH.out hc (by rw [hg]; simp); exact h
            have hc1 : ((Os.check x : Nat) : Int) ≠ 0 := by omega
            have hc2 : (((Os.check x : Nat) : Int) != 0) = true := by simpa using hc1
            clear HK HH T0 hth hg hc hc1
            generalize Os.check x = q at *
            go_wp2_with (first
              | (go_at_call 53; refine (Cg _ b0).mono ?_; rintro e w1 ⟨rfl, hb1⟩; obtain ⟨d0, d1, d2, d3, d4, d5, d6⟩ := V0.on hb1)
              | (go_at_call 54; refine (Cc _ (bchain b0 hb1)).mono ?_; rintro e w2 ⟨rfl, hb2⟩))
            go_ret
            exact ⟨ret_nat HE.out.symm, bchain (bchain B0 hbw) (bchain (bchain b0 hb1) hb2)⟩
      · obtain ⟨-, -, -, -, c4, -⟩ := id T0
        rw [hth] at c4
        by_cases hc : Os.check x = 0
        · have HE : Hid (Tx.opsErr t.thin t.ops = Tx.opsErr t.thin (t.ops.drop (k + 1))) := by have h := HK.out (.inl hc); exact h
          rw [hc] at Cc
          clear HK HH T0 hth hc Cg
          go_wp2_with (go_at_call 54; refine (Cc _ b0).mono ?_; rintro e w2 ⟨rfl, hb2⟩)
          go_roundw
          case rel => exact ⟨k + 1, by omega, by go_num, HE, bchain hbw (bchain b0 hb2)⟩
          case measure => simp [intOf]; omega
        · have HE : Hid (Tx.opsErr t.thin t.ops = Os.check x) := by have h := HH.out hc (by rw [hth]; simp); exact h
          have hc1 : ((Os.check x : Nat) : Int) ≠ 0 := by omega
          have hc2 : (((Os.check x : Nat) : Int) != 0) = true := by simpa using hc1
          clear HK HH T0 hth hc hc1 Cg
          generalize Os.check x = q at *
          go_wp2_with (go_at_call 54; refine (Cc _ b0).mono ?_; rintro e w2 ⟨rfl, hb2⟩)
          go_ret
          exact ⟨ret_nat HE.out.symm, bchain (bchain B0 hbw) (bchain b0 hb2)⟩
    · have HE : Hid (Tx.opsErr t.thin t.ops = 0) := by
        have h := HS.out.trans (opsErr_end (by have := HM.out; omega))
        exact h
      go_wp2
      go_ret
      exact ⟨ret_nat HE.out.symm, bchain B0 hbw⟩
end Go.Proofs.Ytghkjbekjkejpaa.O
