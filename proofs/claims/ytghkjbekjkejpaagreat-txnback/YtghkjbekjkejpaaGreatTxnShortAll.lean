/- The walk of the document's Short of a transaction · The walks of Check of a transaction, both sides. -/
import Derived.Test.YtghkjbekjkejpaaGreatOpWrap
/- The walk of the document's Short of a transaction. -/
namespace Go.Proofs.YtghkjbekjkejpaaGreat.O
open Go.RowKit

/-- So many have it. -/
def allTo {α : Type} (f : α → Bool) (l : List α) (k : Nat) : Prop := ∀ x ∈ l.take k, f x = true
theorem allTo_zero {α : Type} (f : α → Bool) (l : List α) : allTo f l 0 := fun x h => by simp at h
theorem allTo_step {α : Type} {f : α → Bool} {l : List α} {k : Nat} (h : allTo f l k) (hk : k < l.length) (he : f l[k] = true) : allTo f l (k + 1) := by
  intro x hx
  rw [List.take_succ_eq_append_getElem hk, List.mem_append, List.mem_singleton] at hx
  rcases hx with hx | rfl
  · exact h x hx
  · exact he
theorem allTo_end {α : Type} {f : α → Bool} {l : List α} {k : Nat} (h : allTo f l k) (hk : ¬ k < l.length) : l.all f = true := by
  unfold allTo at h
  rw [List.take_of_length_le (by omega)] at h
  exact List.all_eq_true.2 h
theorem all_not {α : Type} {f : α → Bool} {l : List α} {k : Nat} (hk : k < l.length) (he : f l[k] = false) : l.all f = false := by
  cases e : l.all f with
  | false => rfl
  | true => rw [List.all_eq_true.1 e _ (List.getElem_mem hk)] at he; cases he

set_option maxRecDepth 20000 in
set_option maxHeartbeats 2000000 in
theorem tshort_any (t : Tx.Txn) (ov : Value) (w : World) (hw : txWide t) (ho : opsIn w ov t.ops) :
    Calls Tryz.prog 17 #[txV t ov] w fun e w' => e = .returned (.bool (tshort t)) ∧ Below w.heap.size w w' := by
  obtain ⟨ao, cap, rfl⟩ := ho.slice
  obtain ⟨m, hm⟩ : ∃ m, m = t.ops.length := ⟨_, rfl⟩
  have HM : Hid (m = t.ops.length) := hm
  rw [← hm] at ho ⊢
  have HO : Hid (opsIn w (.slice ao m cap) t.ops) := ho
  have HW : Hid (txWide t) := hw
  have B0 := below_new w (txO t (.slice ao m cap))
  have O0 := TAt.new w t (.slice ao m cap)
  obtain ⟨W0, hW0⟩ : ∃ W0, W0 = w.alloc (txO t (.slice ao m cap)) := ⟨_, rfl⟩
  clear ho hw
  by_cases h20 : m ≤ 20
  rotate_left
  · rw [show tshort t = false by unfold tshort; rw [decide_eq_false (by omega)]; rfl]
    have h20' : ¬ (m : Int) ≤ 20 := by omega
    have h20'' : (20 : Int) < (m : Int) := by omega
    clear hm hW0
    go_enter Tryz.func17, Tryz.ntmps17
    go_wp2
    go_ret
    exact ⟨rfl, B0⟩
  have h20' : (m : Int) ≤ 20 := by omega
  have h20'' : ¬ (20 : Int) < (m : Int) := by omega
  have HT : Hid (tshort t = t.ops.all Os.short) := by
    have h : tshort t = t.ops.all Os.short := by unfold tshort; rw [decide_eq_true (by omega)]; rfl
    exact h
  rw [HT.out]
  rw [← hW0] at B0 O0
  clear hm
  go_enter Tryz.func17, Tryz.ntmps17
  obtain ⟨c0, c1, c2, c3, c4, c5⟩ := id O0
  rw [hW0] at c0 c1 c2 c3 c4 c5
  go_wp2
  rw [← hW0]
  clear c0 c1 c2 c3 c4 c5 hW0
  go_loopw [3] (fun i wr => ∃ k : Nat, k ≤ m ∧ i = .int .i64 k ∧ Hid (allTo Os.short t.ops k) ∧ Below W0.heap.size W0 wr) (fun i _ => m - (intOf i).toNat)
  case atStart => exact ⟨0, by omega, rfl, by have h := allTo_zero Os.short t.ops; exact h, Below.refl _ _⟩
  case round =>
    obtain ⟨k, hk, rfl, HS, hbw⟩ := hrel
    obtain ⟨c0, c1, c2, c3, c4, c5⟩ := O0.on hbw
    by_cases hlt : k < m
    · have hkx : k < t.ops.length := by have := HM.out; omega
      obtain ⟨ad, pv, sv, rfl, hA, hp, hs⟩ := (HO.out.on (bchain B0 hbw)).get hkx
      obtain ⟨a0, a1, a2, a3, a4, a5, a6⟩ := hA
      have hwd := HW.out _ (List.getElem_mem hkx)
      have C := oshort _ pv sv wr hwd hp hs
      have hi0 : (0 : Int) ≤ (k : Int) := by omega
      have hi1 : (k : Int) < (m : Int) := by omega
      cases hq : Os.short t.ops[k] with
      | false =>
        have HL : Hid (t.ops.all Os.short = false) := by have h := all_not hkx hq; exact h
        rw [hq] at C
        clear hwd hq hp hs
        generalize t.ops[k] = x at *
        go_wp2_with (go_at_call 41; refine C.mono ?_; rintro e w1 ⟨rfl, hb1⟩)
        go_ret
        exact ⟨ret_bool HL.out.symm, bchain (bchain B0 hbw) hb1⟩
      | true =>
        have HS' : Hid (allTo Os.short t.ops (k + 1)) := by have h := allTo_step HS.out hkx hq; exact h
        rw [hq] at C
        clear hwd hq hp hs HS
        generalize t.ops[k] = x at *
        go_wp2_with (go_at_call 41; refine C.mono ?_; rintro e w1 ⟨rfl, hb1⟩)
        go_roundw
        case rel => exact ⟨k + 1, by omega, by go_num, HS', bchain hbw hb1⟩
        case measure => simp [intOf]; omega
    · have HL : Hid (t.ops.all Os.short = true) := by
        have h := allTo_end HS.out (by have := HM.out; omega)
        exact h
      go_wp2
      go_ret
      exact ⟨ret_bool HL.out.symm, bchain B0 hbw⟩
end Go.Proofs.YtghkjbekjkejpaaGreat.O
/- The walks of Check of a transaction, both sides. -/
namespace Go.Proofs.YtghkjbekjkejpaaGreat.O
open Go.RowKit

theorem opsErr_skip {th : Bool} {l : List Os.Op} {k : Nat} (hk : k < l.length) (h : Os.check l[k] = 0 ∨ (th = true ∧ Os.gone l[k] = true)) : Tx.opsErr th (l.drop k) = Tx.opsErr th (l.drop (k + 1)) := by
  rw [List.drop_eq_getElem_cons hk, Tx.opsErr, if_neg]
  rintro ⟨h1, h2⟩
  rcases h with h | h
  · exact h1 h
  · exact h2 h
theorem opsErr_hit {th : Bool} {l : List Os.Op} {k : Nat} (hk : k < l.length) (h : Os.check l[k] ≠ 0) (h2 : ¬ (th = true ∧ Os.gone l[k] = true)) : Tx.opsErr th (l.drop k) = Os.check l[k] := by
  rw [List.drop_eq_getElem_cons hk, Tx.opsErr, if_pos ⟨h, h2⟩]
theorem opsErr_end {th : Bool} {l : List Os.Op} {k : Nat} (hk : ¬ k < l.length) : Tx.opsErr th (l.drop k) = 0 := by
  rw [List.drop_eq_nil_of_le (by omega)]
  rfl
theorem ret_nat {a b : Nat} (h : a = b) : (Ending.returned (.int .i64 (a : Int))) = .returned (.int .i64 (b : Int)) := by rw [h]

set_option maxRecDepth 20000 in
set_option maxHeartbeats 4000000 in
theorem checkOps_any (t : Tx.Txn) (ov : Value) (w : World) (hsh : ∀ o ∈ t.ops, Os.short o = true) (hn : t.ops.length ≤ 1000000) (ho : opsIn w ov t.ops) :
    Calls Tryz.prog 45 #[txV t ov] w fun e w' => e = .returned (.int .i64 (Tx.opsErr t.thin t.ops : Nat)) ∧ Below w.heap.size w w' := by
  obtain ⟨ao, cap, rfl⟩ := ho.slice
  obtain ⟨m, hm⟩ : ∃ m, m = t.ops.length := ⟨_, rfl⟩
  have HM : Hid (m = t.ops.length) := hm
  rw [← hm] at ho hn ⊢
  have HO : Hid (opsIn w (.slice ao m cap) t.ops) := ho
  have HW : Hid (∀ o ∈ t.ops, Os.short o = true) := hsh
  have B0 := below_new w (txO t (.slice ao m cap))
  have O0 := TAt.new w t (.slice ao m cap)
  obtain ⟨W0, hW0⟩ : ∃ W0, W0 = w.alloc (txO t (.slice ao m cap)) := ⟨_, rfl⟩
  rw [← hW0] at B0 O0
  clear ho hsh hm
  have HE : Hid (Tx.opsErr t.thin t.ops = Tx.opsErr t.thin (t.ops.drop 0)) := by
    have h : Tx.opsErr t.thin t.ops = Tx.opsErr t.thin (t.ops.drop 0) := by rw [List.drop_zero]
    exact h
  go_enter Tryz.func45, Tryz.ntmps45
  go_wp2
  rw [← hW0]
  clear hW0
  go_loopw [4, 5, 9] (fun _ _ i wr => ∃ k : Nat, k ≤ m ∧ i = .int .i64 k ∧ Hid (Tx.opsErr t.thin t.ops = Tx.opsErr t.thin (t.ops.drop k)) ∧ Below W0.heap.size W0 wr) (fun _ _ i _ => m - (intOf i).toNat)
  case atStart => exact ⟨0, by omega, rfl, HE, Below.refl _ _⟩
  case round =>
    clear HE
    obtain ⟨k, hk, rfl, HS, hbw⟩ := hrel
    by_cases hlt : k < m
    · have hkx : k < t.ops.length := by have := HM.out; omega
      obtain ⟨ad, pv, sv, rfl, hA, hp, hs⟩ := (HO.out.on (bchain B0 hbw)).get hkx
      obtain ⟨pa, pn, pc, rfl⟩ := strs_slice hp
      obtain ⟨sa, sn, sc, rfl⟩ := refs_slice hs
      obtain ⟨a0, a1, a2, a3, a4, a5, a6⟩ := hA
      have hsh := HW.out _ (List.getElem_mem hkx)
      have hi0 : (0 : Int) ≤ (k : Int) := by omega
      have hi1 : (k : Int) < (m : Int) := by omega
      have Cc := fun W (hb : Below wr.heap.size wr W) => ocheck _ (.slice pa pn pc) (.slice sa sn sc) W hsh (U.strsAt_below hp hb (Nat.le_refl _)) (hs.on hb)
      have Cg := fun W (hb : Below wr.heap.size wr W) => ogone _ (.slice pa pn pc) (.slice sa sn sc) W hsh (U.strsAt_below hp hb (Nat.le_refl _)) (hs.on hb)
      have HK : Hid ((Os.check t.ops[k] = 0 ∨ (t.thin = true ∧ Os.gone t.ops[k] = true)) → Tx.opsErr t.thin t.ops = Tx.opsErr t.thin (t.ops.drop (k + 1))) := by
        have h : (Os.check t.ops[k] = 0 ∨ (t.thin = true ∧ Os.gone t.ops[k] = true)) → Tx.opsErr t.thin t.ops = Tx.opsErr t.thin (t.ops.drop (k + 1)) := fun h => HS.out.trans (opsErr_skip hkx h)
        exact h
      have HH : Hid (Os.check t.ops[k] ≠ 0 → ¬ (t.thin = true ∧ Os.gone t.ops[k] = true) → Tx.opsErr t.thin t.ops = Os.check t.ops[k]) := by
        have h : Os.check t.ops[k] ≠ 0 → ¬ (t.thin = true ∧ Os.gone t.ops[k] = true) → Tx.opsErr t.thin t.ops = Os.check t.ops[k] := fun h h2 => HS.out.trans (opsErr_hit hkx h h2)
        exact h
      clear hsh hp hs HS
      generalize t.ops[k] = x at *
      have V0 := OAt.new wr x.k (.slice pa pn pc) x.vk x.vn x.vs x.n (.slice sa sn sc)
      have b0 := below_new wr (oO x (.slice pa pn pc) (.slice sa sn sc))
      have T0 := O0.on (bchain hbw b0)
      obtain hth | hth : t.thin = true ∨ t.thin = false := by cases t.thin <;> simp
      · obtain ⟨-, -, -, -, c4, -⟩ := id T0
        rw [hth] at c4
        cases hg : Os.gone x with
        | true =>
          have HE : Hid (Tx.opsErr t.thin t.ops = Tx.opsErr t.thin (t.ops.drop (k + 1))) := by have h := HK.out (.inr ⟨hth, hg⟩); exact h
          rw [hg] at Cg
          clear HK HH Cc T0 hth hg
          go_wp2_with (go_at_call 57; refine (Cg _ b0).mono ?_; rintro e w1 ⟨rfl, hb1⟩)
          go_roundw
          case rel => exact ⟨k + 1, by omega, by go_num, HE, bchain hbw (bchain b0 hb1)⟩
          case measure => simp [intOf]; omega
        | false =>
          rw [hg] at Cg
          by_cases hc : Os.check x = 0
          · have HE : Hid (Tx.opsErr t.thin t.ops = Tx.opsErr t.thin (t.ops.drop (k + 1))) := by have h := HK.out (.inl hc); exact h
            rw [hc] at Cc
            clear HK HH T0 hth hg hc
            go_wp2_with (first
              | (go_at_call 57; refine (Cg _ b0).mono ?_; rintro e w1 ⟨rfl, hb1⟩; obtain ⟨d0, d1, d2, d3, d4, d5, d6⟩ := V0.on hb1)
              | (go_at_call 72; refine (Cc _ (bchain b0 hb1)).mono ?_; rintro e w2 ⟨rfl, hb2⟩))
            go_roundw
            case rel => exact ⟨k + 1, by omega, by go_num, HE, bchain hbw (bchain (bchain b0 hb1) hb2)⟩
            case measure => simp [intOf]; omega
          · have HE : Hid (Tx.opsErr t.thin t.ops = Os.check x) := by have h := HH.out hc (by rw [hg]; simp); exact h
            have hc1 : ((Os.check x : Nat) : Int) ≠ 0 := by omega
            have hc2 : (((Os.check x : Nat) : Int) != 0) = true := by simpa using hc1
            clear HK HH T0 hth hg hc hc1
            generalize Os.check x = q at *
            go_wp2_with (first
              | (go_at_call 57; refine (Cg _ b0).mono ?_; rintro e w1 ⟨rfl, hb1⟩; obtain ⟨d0, d1, d2, d3, d4, d5, d6⟩ := V0.on hb1)
              | (go_at_call 72; refine (Cc _ (bchain b0 hb1)).mono ?_; rintro e w2 ⟨rfl, hb2⟩))
            go_ret
            exact ⟨ret_nat HE.out.symm, bchain (bchain B0 hbw) (bchain (bchain b0 hb1) hb2)⟩
      · obtain ⟨-, -, -, -, c4, -⟩ := id T0
        rw [hth] at c4
        by_cases hc : Os.check x = 0
        · have HE : Hid (Tx.opsErr t.thin t.ops = Tx.opsErr t.thin (t.ops.drop (k + 1))) := by have h := HK.out (.inl hc); exact h
          rw [hc] at Cc
          clear HK HH T0 hth hc Cg
          go_wp2_with (go_at_call 72; refine (Cc _ b0).mono ?_; rintro e w2 ⟨rfl, hb2⟩)
          go_roundw
          case rel => exact ⟨k + 1, by omega, by go_num, HE, bchain hbw (bchain b0 hb2)⟩
          case measure => simp [intOf]; omega
        · have HE : Hid (Tx.opsErr t.thin t.ops = Os.check x) := by have h := HH.out hc (by rw [hth]; simp); exact h
          have hc1 : ((Os.check x : Nat) : Int) ≠ 0 := by omega
          have hc2 : (((Os.check x : Nat) : Int) != 0) = true := by simpa using hc1
          clear HK HH T0 hth hc hc1 Cg
          generalize Os.check x = q at *
          go_wp2_with (go_at_call 72; refine (Cc _ b0).mono ?_; rintro e w2 ⟨rfl, hb2⟩)
          go_ret
          exact ⟨ret_nat HE.out.symm, bchain (bchain B0 hbw) (bchain b0 hb2)⟩
    · have HE : Hid (Tx.opsErr t.thin t.ops = 0) := by
        have h := HS.out.trans (opsErr_end (by have := HM.out; omega))
        exact h
      go_wp2
      go_ret
      exact ⟨ret_nat HE.out.symm, bchain B0 hbw⟩
end Go.Proofs.YtghkjbekjkejpaaGreat.O
