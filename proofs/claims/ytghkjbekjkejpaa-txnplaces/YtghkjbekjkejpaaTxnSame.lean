/- The walks of Same of transactions, both sides, and of the document's All. -/
import Derived.Test.YtghkjbekjkejpaaOpWrap
namespace Go.Proofs.Ytghkjbekjkejpaa.O
open Go.RowKit

theorem neq_dot (x y : D) (w : World) : (binOp .neq 23 (dV x) (dV y)).run Try.prog w = .ok (.bool (!decide (x = y))) w := by
  rw [run_neq_struct, equal_dot w x y]
  rfl
/-- So many are the same. -/
def eqTo {α : Type} (a b : List α) (k : Nat) : Prop := a.take k = b.take k
theorem eqTo_zero {α : Type} (a b : List α) : eqTo a b 0 := by simp [eqTo]
theorem eqTo_step {α : Type} {a b : List α} {k : Nat} (h : eqTo a b k) (h1 : k < a.length) (h2 : k < b.length) (he : a[k] = b[k]) : eqTo a b (k + 1) := by
  unfold eqTo at h ⊢
  rw [List.take_succ_eq_append_getElem h1, List.take_succ_eq_append_getElem h2, h, he]
theorem eqTo_all {α : Type} {a b : List α} {k : Nat} (h : eqTo a b k) (h1 : ¬ k < a.length) (hl : a.length = b.length) : a = b := by
  unfold eqTo at h
  rwa [List.take_of_length_le (by omega), List.take_of_length_le (by omega)] at h

set_option maxRecDepth 20000 in
set_option maxHeartbeats 4000000 in
theorem tequal_any (v v' : Value) (os os' : List Os.Op) (w : World) (hsh : ∀ o ∈ os, Os.short o = true) (hn : os.length ≤ 1000000) (ho : opsIn w v os) (ho' : opsIn w v' os') :
    Calls Try.prog 35 #[v, v', .func (.func 36) #[] #[]] w fun e w' => e = .returned (.bool (Tx.sameOps os os')) ∧ Below w.heap.size w w' := by
  obtain ⟨ao, cap, rfl⟩ := ho.slice
  obtain ⟨ao', cap', rfl⟩ := ho'.slice
  obtain ⟨m, hm⟩ : ∃ m, m = os.length := ⟨_, rfl⟩
  obtain ⟨m', hm'⟩ : ∃ m', m' = os'.length := ⟨_, rfl⟩
  have HM : Hid (m = os.length) := hm
  have HM' : Hid (m' = os'.length) := hm'
  rw [← hm] at ho hn
  rw [← hm'] at ho'
  rw [← hm, ← hm']
  have HO : Hid (opsIn w (.slice ao m cap) os) := ho
  have HO' : Hid (opsIn w (.slice ao' m' cap') os') := ho'
  have HW : Hid (∀ o ∈ os, Os.short o = true) := hsh
  clear ho ho' hsh
  by_cases hl : m = m'
  rotate_left
  · rw [Tx.sameOps_len (by omega)]
    have e5 : ((m : Int) != (m' : Int)) = true := by simp; omega
    clear hl hm hm'
    go_enter Try.func35, Try.ntmps35
    go_wp2
    go_ret
    exact ⟨rfl, Below.refl _ _⟩
  subst hl
  clear hm hm'
  go_enter Try.func35, Try.ntmps35
  go_wp2
  go_loopw [7, 8, 9, 17] (fun _ _ _ i wr => ∃ k : Nat, k ≤ m ∧ i = .int .i64 k ∧ Hid (eqTo os os' k) ∧ Below w.heap.size w wr) (fun _ _ _ i _ => m - (intOf i).toNat)
  case atStart => exact ⟨0, by omega, rfl, by have h := eqTo_zero os os'; exact h, Below.refl _ _⟩
  case round =>
    obtain ⟨k, hk, rfl, HS, hbw⟩ := hrel
    by_cases hlt : k < m
    · have hkx : k < os.length := by have := HM.out; omega
      have hkx' : k < os'.length := by have := HM'.out; omega
      obtain ⟨ad, pv, sv, rfl, hA, hp, hs⟩ := (HO.out.on hbw).get hkx
      obtain ⟨bd, pv', sv', rfl, hB, hp', hs'⟩ := (HO'.out.on hbw).get hkx'
      obtain ⟨pa, pn, pc, rfl⟩ := strs_slice hp
      obtain ⟨sa, sn, sc, rfl⟩ := refs_slice hs
      obtain ⟨pa', pn', pc', rfl⟩ := strs_slice hp'
      obtain ⟨sa', sn', sc', rfl⟩ := refs_slice hs'
      have hsh := HW.out _ (List.getElem_mem hkx)
      have hi0 : (0 : Int) ≤ (k : Int) := by omega
      have hi1 : (k : Int) < (m : Int) := by omega
      obtain ⟨a0, a1, a2, a3, a4, a5, a6⟩ := hA
      have hB1 := hB.on (below_new wr (oO os[k] (.slice pa pn pc) (.slice sa sn sc)))
      obtain ⟨b0, b1, b2, b3, b4, b5, b6⟩ := hB1
      have b00 := below_new2 wr (oO os[k] (.slice pa pn pc) (.slice sa sn sc)) (oO os'[k] (.slice pa' pn' pc') (.slice sa' sn' sc'))
      have V0 := OAt.new2 wr os[k].k (.slice pa pn pc) os[k].vk os[k].vn os[k].vs os[k].n (.slice sa sn sc) os'[k].k (.slice pa' pn' pc') os'[k].vk os'[k].vn os'[k].vs os'[k].n (.slice sa' sn' sc')
      obtain ⟨⟨c0, c1, c2, c3, c4, c5, c6⟩, ⟨d0, d1, d2, d3, d4, d5, d6⟩⟩ := V0
      have C := osame _ _ _ _ _ _ _ hsh (U.strsAt_below hp b00 (Nat.le_refl _)) (hs.on b00) (U.strsAt_below hp' b00 (Nat.le_refl _)) (hs'.on b00)
      cases hq : Os.same os[k] os'[k] with
      | true =>
        have HS' : Hid (eqTo os os' (k + 1)) := by have h := eqTo_step HS.out hkx hkx' (Os.same_eq.1 hq); exact h
        rw [hq] at C
        clear hsh hp hs hp' hs' hB HS hq
        generalize os[k] = x at *
        generalize os'[k] = y at *
        go_wp2_with (go_at_call 36; refine C.mono ?_; rintro e w1 ⟨rfl, hb1⟩)
        go_roundw
        case rel => exact ⟨k + 1, by omega, by go_num, HS', bchain hbw (bchain b00 hb1)⟩
        case measure => simp [intOf]; omega
      | false =>
        have HL : Hid (Tx.sameOps os os' = false) := by have h := Tx.sameOps_at hkx hkx' hq; exact h
        rw [hq] at C
        clear hsh hp hs hp' hs' hB HS hq
        generalize os[k] = x at *
        generalize os'[k] = y at *
        go_wp2_with (go_at_call 36; refine C.mono ?_; rintro e w1 ⟨rfl, hb1⟩)
        go_ret
        exact ⟨ret_bool HL.out.symm, bchain hbw (bchain b00 hb1)⟩
    · have HL : Hid (Tx.sameOps os os' = true) := by
        have h := Tx.sameOps_eq.2 (eqTo_all HS.out (by have := HM.out; omega) (by have := HM.out; have := HM'.out; omega))
        exact h
      go_wp2
      go_ret
      exact ⟨ret_bool HL.out.symm, hbw⟩

theorem tsame_no {a b : Tx.Txn} (h : ¬ (a.d = b.d ∧ a.u = b.u ∧ a.t = b.t ∧ a.thin = b.thin)) : Tx.same a b = false := by
  unfold Tx.same
  rw [decide_eq_false h, Bool.false_and]
theorem tsame_yes {a b : Tx.Txn} (h : a.d = b.d ∧ a.u = b.u ∧ a.t = b.t ∧ a.thin = b.thin) : Tx.same a b = Tx.sameOps a.ops b.ops := by
  unfold Tx.same
  rw [decide_eq_true h, Bool.true_and]
theorem tsame_len {a b : Tx.Txn} (h : a.ops.length ≠ b.ops.length) : Tx.same a b = false := by
  unfold Tx.same
  rw [Tx.sameOps_len h, Bool.and_false]

set_option maxRecDepth 20000 in
set_option maxHeartbeats 4000000 in
theorem tsame_any (t t' : Tx.Txn) (ov ov' : Value) (w : World) (hsh : ∀ o ∈ t.ops, Os.short o = true) (hn : t.ops.length ≤ 1000000) (ho : opsIn w ov t.ops) (ho' : opsIn w ov' t'.ops) :
    Calls Try.prog 12 #[txV t ov, txV t' ov'] w fun e w' => e = .returned (.bool (Tx.same t t')) ∧ Below w.heap.size w w' := by
  obtain ⟨ao, cap, rfl⟩ := ho.slice
  obtain ⟨ao', cap', rfl⟩ := ho'.slice
  obtain ⟨m, hm⟩ : ∃ m, m = t.ops.length := ⟨_, rfl⟩
  obtain ⟨m', hm'⟩ : ∃ m', m' = t'.ops.length := ⟨_, rfl⟩
  have HM : Hid (m = t.ops.length) := hm
  have HM' : Hid (m' = t'.ops.length) := hm'
  rw [← hm] at ho hn
  rw [← hm'] at ho'
  rw [← hm, ← hm']
  have HO : Hid (opsIn w (.slice ao m cap) t.ops) := ho
  have HO' : Hid (opsIn w (.slice ao' m' cap') t'.ops) := ho'
  have HW : Hid (∀ o ∈ t.ops, Os.short o = true) := hsh
  have HN : Hid (t.ops.length ≤ 1000000) := by rw [← hm]; exact hn
  clear ho ho' hsh hm hm'
  have B0 := below_new2 w (txO t (.slice ao m cap)) (txO t' (.slice ao' m' cap'))
  have O0 := TAt.new2 w t (.slice ao m cap) t' (.slice ao' m' cap')
  obtain ⟨⟨c0, c1, c2, c3, c4, c5⟩, ⟨d0, d1, d2, d3, d4, d5⟩⟩ := id O0
  have hE := fun w => eql_dot t.d t'.d w
  by_cases h1 : t.d = t'.d
  rotate_left
  · rw [tsame_no (fun x => h1 x.1)]
    rw [decide_eq_false h1] at hE
    clear h1
    go_enter Try.func12, Try.ntmps12
    go_wp2
    go_ret
    exact ⟨rfl, B0⟩
  have H1 : Hid (t.d = t'.d) := h1
  rw [decide_eq_true h1] at hE
  clear h1
  by_cases h2 : t.u = t'.u
  rotate_left
  · rw [tsame_no (fun x => h2 x.2.1)]
    have e2 : (t.u == t'.u) = false := beq_eq_false_iff_ne.2 h2
    clear h2
    go_enter Try.func12, Try.ntmps12
    go_wp2
    go_ret
    exact ⟨rfl, B0⟩
  have H2 : Hid (t.u = t'.u) := h2
  have e2 : (t.u == t'.u) = true := by simpa using h2
  clear h2
  by_cases h3 : t.t = t'.t
  rotate_left
  · rw [tsame_no (fun x => h3 x.2.2.1)]
    have e3 : (t.t == t'.t) = false := beq_eq_false_iff_ne.2 h3
    clear h3
    go_enter Try.func12, Try.ntmps12
    go_wp2
    go_ret
    exact ⟨rfl, B0⟩
  have H3 : Hid (t.t = t'.t) := h3
  have e3 : (t.t == t'.t) = true := by simpa using h3
  clear h3
  by_cases h4 : t.thin = t'.thin
  rotate_left
  · rw [tsame_no (fun x => h4 x.2.2.2)]
    have e4 : (t.thin == t'.thin) = false := beq_eq_false_iff_ne.2 h4
    clear h4
    go_enter Try.func12, Try.ntmps12
    go_wp2
    go_ret
    exact ⟨rfl, B0⟩
  have H4 : Hid (t.thin = t'.thin) := h4
  have e4 : (t.thin == t'.thin) = true := by simpa using h4
  clear h4
  have HY : Hid (Tx.same t t' = Tx.sameOps t.ops t'.ops) := by
    have h := tsame_yes (a := t) (b := t') ⟨H1.out, H2.out, H3.out, H4.out⟩
    exact h
  rw [HY.out]
  have C := fun W (hb : Below w.heap.size w W) => tequal_any _ _ _ _ W HW.out HN.out (HO.out.on hb) (HO'.out.on hb)
  generalize Tx.sameOps t.ops t'.ops = q at *
  go_enter Try.func12, Try.ntmps12
  go_wp2_with (go_at_call 35; refine (C _ B0).mono ?_; rintro e w1 ⟨rfl, hb1⟩)
  go_ret
  exact ⟨rfl, bchain B0 hb1⟩

set_option maxRecDepth 20000 in
set_option maxHeartbeats 4000000 in
theorem refTsame_any (t t' : Tx.Txn) (ov ov' : Value) (w : World) (hsh : ∀ o ∈ t.ops, Os.short o = true) (hn : t.ops.length ≤ 1000000) (ho : opsIn w ov t.ops) (ho' : opsIn w ov' t'.ops) :
    Calls Try.prog 13 #[txV t ov, txV t' ov'] w fun e w' => e = .returned (.bool (Tx.same t t')) ∧ Below w.heap.size w w' := by
  obtain ⟨ao, cap, rfl⟩ := ho.slice
  obtain ⟨ao', cap', rfl⟩ := ho'.slice
  obtain ⟨m, hm⟩ : ∃ m, m = t.ops.length := ⟨_, rfl⟩
  obtain ⟨m', hm'⟩ : ∃ m', m' = t'.ops.length := ⟨_, rfl⟩
  have HM : Hid (m = t.ops.length) := hm
  have HM' : Hid (m' = t'.ops.length) := hm'
  rw [← hm] at ho hn
  rw [← hm'] at ho'
  rw [← hm, ← hm']
  have HO : Hid (opsIn w (.slice ao m cap) t.ops) := ho
  have HO' : Hid (opsIn w (.slice ao' m' cap') t'.ops) := ho'
  have HW : Hid (∀ o ∈ t.ops, Os.short o = true) := hsh
  have HN : Hid (t.ops.length ≤ 1000000) := by rw [← hm]; exact hn
  clear ho ho' hsh hm hm'
  have B0 := below_new2 w (txO t (.slice ao m cap)) (txO t' (.slice ao' m' cap'))
  have O0 := TAt.new2 w t (.slice ao m cap) t' (.slice ao' m' cap')
  obtain ⟨⟨c0, c1, c2, c3, c4, c5⟩, ⟨d0, d1, d2, d3, d4, d5⟩⟩ := id O0
  have hE := fun w => neq_dot t.d t'.d w
  by_cases h1 : t.d = t'.d
  rotate_left
  · rw [tsame_no (fun x => h1 x.1)]
    rw [decide_eq_false h1] at hE
    simp only [Bool.not_false] at hE
    clear h1
    go_enter Try.func13, Try.ntmps13
    go_wp2
    go_ret
    exact ⟨rfl, B0⟩
  have H1 : Hid (t.d = t'.d) := h1
  rw [decide_eq_true h1] at hE
  simp only [Bool.not_true] at hE
  clear h1
  by_cases h2 : t.u = t'.u
  rotate_left
  · rw [tsame_no (fun x => h2 x.2.1)]
    have e2 : (t.u != t'.u) = true := by simpa using h2
    clear h2
    go_enter Try.func13, Try.ntmps13
    go_wp2
    go_ret
    exact ⟨rfl, B0⟩
  have H2 : Hid (t.u = t'.u) := h2
  have e2 : (t.u != t'.u) = false := by simpa using h2
  clear h2
  by_cases h3 : t.t = t'.t
  rotate_left
  · rw [tsame_no (fun x => h3 x.2.2.1)]
    have e3 : (t.t != t'.t) = true := by simpa using h3
    clear h3
    go_enter Try.func13, Try.ntmps13
    go_wp2
    go_ret
    exact ⟨rfl, B0⟩
  have H3 : Hid (t.t = t'.t) := h3
  have e3 : (t.t != t'.t) = false := by simpa using h3
  clear h3
  by_cases h4 : t.thin = t'.thin
  rotate_left
  · rw [tsame_no (fun x => h4 x.2.2.2)]
    skip
    go_enter Try.func13, Try.ntmps13
    go_wp2
    go_ret
    exact ⟨rfl, B0⟩
  have H4 : Hid (t.thin = t'.thin) := h4
  skip
  clear c0 c1 c2 c3 c4 c5 d0 d1 d2 d3 d4 d5
  dsimp only [txV, txO] at B0 O0 ⊢
  generalize t'.thin = th' at h4 B0 O0 ⊢
  subst h4
  have HY : Hid (Tx.same t t' = Tx.sameOps t.ops t'.ops) := by
    have h := tsame_yes (a := t) (b := t') ⟨H1.out, H2.out, H3.out, H4.out⟩
    exact h
  by_cases h5 : m = m'
  rotate_left
  · rw [tsame_len (by have := HM.out; have := HM'.out; omega)]
    have e5 : ((m : Int) != (m' : Int)) = true := by simp; omega
    clear h5
    go_enter Try.func13, Try.ntmps13
    go_wp2
    go_ret
    exact ⟨rfl, B0⟩
  subst h5
  go_enter Try.func13, Try.ntmps13
  go_wp2
  generalize ((w.alloc (.cells #[.int .i64 t.d.1, .int .i64 t.d.2, .int .i64 t.u, .int .i64 t.t, .bool t.thin, .slice ao m cap] 26)).alloc (.cells #[.int .i64 t'.d.1, .int .i64 t'.d.2, .int .i64 t'.u, .int .i64 t'.t, .bool t.thin, .slice ao' m cap'] 26)) = W0 at B0 O0 ⊢
  clear hE e2 e3
  go_loopw [5] (fun i wr => ∃ k : Nat, k ≤ m ∧ i = .int .i64 k ∧ Hid (eqTo t.ops t'.ops k) ∧ Below W0.heap.size W0 wr) (fun i _ => m - (intOf i).toNat)
  case atStart => exact ⟨0, by omega, rfl, by have h := eqTo_zero t.ops t'.ops; exact h, Below.refl _ _⟩
  case round =>
    obtain ⟨k, hk, rfl, HS, hbw⟩ := hrel
    obtain ⟨-, -, -, -, -, c5⟩ := O0.1.on hbw
    obtain ⟨-, -, -, -, -, d5⟩ := O0.2.on hbw
    by_cases hlt : k < m
    · have hkx : k < t.ops.length := by have := HM.out; omega
      have hkx' : k < t'.ops.length := by have := HM'.out; omega
      obtain ⟨ad, pv, sv, rfl, hA, hp, hs⟩ := (HO.out.on (bchain B0 hbw)).get hkx
      obtain ⟨bd, pv', sv', rfl, hB, hp', hs'⟩ := (HO'.out.on (bchain B0 hbw)).get hkx'
      have hsh := HW.out _ (List.getElem_mem hkx)
      have hi0 : (0 : Int) ≤ (k : Int) := by omega
      have hi1 : (k : Int) < (m : Int) := by omega
      obtain ⟨a0, a1, a2, a3, a4, a5, a6⟩ := hA
      obtain ⟨b0, b1, b2, b3, b4, b5, b6⟩ := hB
      have C := fun W (hb : Below wr.heap.size wr W) => orsame _ pv sv W _ pv' sv' hsh (U.strsAt_below hp hb (Nat.le_refl _)) (hs.on hb) (U.strsAt_below hp' hb (Nat.le_refl _)) (hs'.on hb)
      have hd : Below wr.heap.size wr wr.drew := (Below.refl _ _).drew
      cases hq : Os.same t.ops[k] t'.ops[k] with
      | true =>
        have HS' : Hid (eqTo t.ops t'.ops (k + 1)) := by have h := eqTo_step HS.out hkx hkx' (Os.same_eq.1 hq); exact h
        rw [hq] at C
        clear hsh hp hs hp' hs' HS hq
        generalize t.ops[k] = x at *
        generalize t'.ops[k] = y at *
        go_wp2
        go_region_held3 (fun W => W.cell? ⟨w.heap.size, 5, none⟩ = some (.slice (some ad) m cap) ∧ W.cell? ⟨w.heap.size + 1, 5, none⟩ = some (.slice (some bd) m cap') ∧ W.cell? (ad.add (k * 7)) = some (.int .i64 x.k) ∧ W.cell? ⟨(ad.add (k * 7)).block, (ad.add (k * 7)).off + 1, none⟩ = some pv ∧ W.cell? ⟨(ad.add (k * 7)).block, (ad.add (k * 7)).off + 2, none⟩ = some (.int .i64 x.vk) ∧ W.cell? ⟨(ad.add (k * 7)).block, (ad.add (k * 7)).off + 3, none⟩ = some (.int .i64 x.vn) ∧ W.cell? ⟨(ad.add (k * 7)).block, (ad.add (k * 7)).off + 4, none⟩ = some (.string ⟨x.vs.toArray⟩) ∧ W.cell? ⟨(ad.add (k * 7)).block, (ad.add (k * 7)).off + 5, none⟩ = some (.int .i64 x.n) ∧ W.cell? ⟨(ad.add (k * 7)).block, (ad.add (k * 7)).off + 6, none⟩ = some sv ∧ W.cell? (bd.add (k * 7)) = some (.int .i64 y.k) ∧ W.cell? ⟨(bd.add (k * 7)).block, (bd.add (k * 7)).off + 1, none⟩ = some pv' ∧ W.cell? ⟨(bd.add (k * 7)).block, (bd.add (k * 7)).off + 2, none⟩ = some (.int .i64 y.vk) ∧ W.cell? ⟨(bd.add (k * 7)).block, (bd.add (k * 7)).off + 3, none⟩ = some (.int .i64 y.vn) ∧ W.cell? ⟨(bd.add (k * 7)).block, (bd.add (k * 7)).off + 4, none⟩ = some (.string ⟨y.vs.toArray⟩) ∧ W.cell? ⟨(bd.add (k * 7)).block, (bd.add (k * 7)).off + 5, none⟩ = some (.int .i64 y.n) ∧ W.cell? ⟨(bd.add (k * 7)).block, (bd.add (k * 7)).off + 6, none⟩ = some sv' ∧ Below wr.heap.size wr W)
          (first | exact ⟨c5, d5, a0, a1, a2, a3, a4, a5, a6, b0, b1, b2, b3, b4, b5, b6, hd⟩ | go_keep | (refine ⟨keep_cell hb ?_, keep_cell hb ?_, keep_cell hb ?_, keep_cell hb ?_, keep_cell hb ?_, keep_cell hb ?_, keep_cell hb ?_, keep_cell hb ?_, keep_cell hb ?_, keep_cell hb ?_, keep_cell hb ?_, keep_cell hb ?_, keep_cell hb ?_, keep_cell hb ?_, keep_cell hb ?_, keep_cell hb ?_, bchain ?_ hb⟩ <;> go_keep))
          (first | (go_at_call 37; refine (C _ (by first | exact hd | go_keep)).mono ?_; rintro e w1 ⟨rfl, hb⟩))
        have hbx : Below wr.heap.size wr w1 := bchain hd hb
        go_wp2
        go_roundw
        case rel => exact ⟨k + 1, by omega, by go_num, HS', bchain hbw hbx⟩
        case measure => simp [intOf]; omega
      | false =>
        have HL : Hid (Tx.same t t' = false) := by have h := HY.out.trans (Tx.sameOps_at hkx hkx' hq); exact h
        rw [hq] at C
        clear hsh hp hs hp' hs' HS hq
        generalize t.ops[k] = x at *
        generalize t'.ops[k] = y at *
        go_wp2
        go_region_held3 (fun W => W.cell? ⟨w.heap.size, 5, none⟩ = some (.slice (some ad) m cap) ∧ W.cell? ⟨w.heap.size + 1, 5, none⟩ = some (.slice (some bd) m cap') ∧ W.cell? (ad.add (k * 7)) = some (.int .i64 x.k) ∧ W.cell? ⟨(ad.add (k * 7)).block, (ad.add (k * 7)).off + 1, none⟩ = some pv ∧ W.cell? ⟨(ad.add (k * 7)).block, (ad.add (k * 7)).off + 2, none⟩ = some (.int .i64 x.vk) ∧ W.cell? ⟨(ad.add (k * 7)).block, (ad.add (k * 7)).off + 3, none⟩ = some (.int .i64 x.vn) ∧ W.cell? ⟨(ad.add (k * 7)).block, (ad.add (k * 7)).off + 4, none⟩ = some (.string ⟨x.vs.toArray⟩) ∧ W.cell? ⟨(ad.add (k * 7)).block, (ad.add (k * 7)).off + 5, none⟩ = some (.int .i64 x.n) ∧ W.cell? ⟨(ad.add (k * 7)).block, (ad.add (k * 7)).off + 6, none⟩ = some sv ∧ W.cell? (bd.add (k * 7)) = some (.int .i64 y.k) ∧ W.cell? ⟨(bd.add (k * 7)).block, (bd.add (k * 7)).off + 1, none⟩ = some pv' ∧ W.cell? ⟨(bd.add (k * 7)).block, (bd.add (k * 7)).off + 2, none⟩ = some (.int .i64 y.vk) ∧ W.cell? ⟨(bd.add (k * 7)).block, (bd.add (k * 7)).off + 3, none⟩ = some (.int .i64 y.vn) ∧ W.cell? ⟨(bd.add (k * 7)).block, (bd.add (k * 7)).off + 4, none⟩ = some (.string ⟨y.vs.toArray⟩) ∧ W.cell? ⟨(bd.add (k * 7)).block, (bd.add (k * 7)).off + 5, none⟩ = some (.int .i64 y.n) ∧ W.cell? ⟨(bd.add (k * 7)).block, (bd.add (k * 7)).off + 6, none⟩ = some sv' ∧ Below wr.heap.size wr W)
          (first | exact ⟨c5, d5, a0, a1, a2, a3, a4, a5, a6, b0, b1, b2, b3, b4, b5, b6, hd⟩ | go_keep | (refine ⟨keep_cell hb ?_, keep_cell hb ?_, keep_cell hb ?_, keep_cell hb ?_, keep_cell hb ?_, keep_cell hb ?_, keep_cell hb ?_, keep_cell hb ?_, keep_cell hb ?_, keep_cell hb ?_, keep_cell hb ?_, keep_cell hb ?_, keep_cell hb ?_, keep_cell hb ?_, keep_cell hb ?_, keep_cell hb ?_, bchain ?_ hb⟩ <;> go_keep))
          (first | (go_at_call 37; refine (C _ (by first | exact hd | go_keep)).mono ?_; rintro e w1 ⟨rfl, hb⟩))
        have hbx : Below wr.heap.size wr w1 := bchain hd hb
        go_wp2
        go_ret
        exact ⟨ret_bool HL.out.symm, bchain (bchain B0 hbw) hbx⟩
    · have HL : Hid (Tx.same t t' = true) := by
        have h := HY.out.trans (Tx.sameOps_eq.2 (eqTo_all HS.out (by have := HM.out; omega) (by have := HM.out; have := HM'.out; omega)))
        exact h
      go_wp2
      go_ret
      exact ⟨ret_bool HL.out.symm, bchain B0 hbw⟩

set_option maxRecDepth 20000 in
set_option maxHeartbeats 4000000 in
/-- The document's All of lists that read alike. -/
theorem tall_any (v v' : Value) (l : List Tx.Txn) (w : World) (hsh : ∀ t ∈ l, t.ops.length ≤ 1000000 ∧ ∀ o ∈ t.ops, Os.short o = true) (hn : l.length ≤ 1000000) (hv : txsIn w v l) (hv' : txsIn w v' l) :
    Calls Try.prog 22 #[v, v'] w fun e w' => e = .returned (.bool true) ∧ Below w.heap.size w w' := by
  have HV : Hid (txsIn w v l) := hv
  have HV' : Hid (txsIn w v' l) := hv'
  obtain ⟨ao, cap, rfl, -⟩ := hv
  obtain ⟨ao', cap', rfl, -⟩ := hv'
  obtain ⟨m, hm⟩ : ∃ m, m = l.length := ⟨_, rfl⟩
  have HM : Hid (m = l.length) := hm
  have HW : Hid (∀ t ∈ l, t.ops.length ≤ 1000000 ∧ ∀ o ∈ t.ops, Os.short o = true) := hsh
  rw [← hm] at HV HV' hn ⊢
  clear hm hsh
  have e5 : ((m : Int) != (m : Int)) = false := by simp
  go_enter Try.func22, Try.ntmps22
  go_wp2
  go_loopw [5] (fun i wr => ∃ k : Nat, k ≤ m ∧ i = .int .i64 k ∧ Below w.heap.size w wr) (fun i _ => m - (intOf i).toNat)
  case atStart => exact ⟨0, by omega, rfl, Below.refl _ _⟩
  case round =>
    obtain ⟨k, hk, rfl, hbw⟩ := hrel
    by_cases hlt : k < m
    · have hkx : k < l.length := by have := HM.out; omega
      obtain ⟨ad, ov, rfl, hA, ho⟩ := (HV.out.on hbw).get hkx
      obtain ⟨bd, ov', rfl, hB, ho'⟩ := (HV'.out.on hbw).get hkx
      have hsh := HW.out _ (List.getElem_mem hkx)
      have hi0 : (0 : Int) ≤ (k : Int) := by omega
      have hi1 : (k : Int) < (m : Int) := by omega
      obtain ⟨a0, a1, a2, a3, a4, a5⟩ := hA
      obtain ⟨b0, b1, b2, b3, b4, b5⟩ := hB
      have C := fun W (hb : Below wr.heap.size wr W) => refTsame_any l[k] l[k] ov ov' W hsh.2 hsh.1 (ho.on hb) (ho'.on hb)
      rw [Tx.same_self] at C
      have hd : Below wr.heap.size wr wr.drew := (Below.refl _ _).drew
      clear hsh ho ho'
      generalize l[k] = x at *
      go_wp2
      go_region_held3 (fun W => W.cell? (ad.add (k * 6)) = some (.int .i64 x.d.1) ∧ W.cell? ⟨(ad.add (k * 6)).block, (ad.add (k * 6)).off + 1, none⟩ = some (.int .i64 x.d.2) ∧ W.cell? ⟨(ad.add (k * 6)).block, (ad.add (k * 6)).off + 2, none⟩ = some (.int .i64 x.u) ∧ W.cell? ⟨(ad.add (k * 6)).block, (ad.add (k * 6)).off + 3, none⟩ = some (.int .i64 x.t) ∧ W.cell? ⟨(ad.add (k * 6)).block, (ad.add (k * 6)).off + 4, none⟩ = some (.bool x.thin) ∧ W.cell? ⟨(ad.add (k * 6)).block, (ad.add (k * 6)).off + 5, none⟩ = some ov ∧ W.cell? (bd.add (k * 6)) = some (.int .i64 x.d.1) ∧ W.cell? ⟨(bd.add (k * 6)).block, (bd.add (k * 6)).off + 1, none⟩ = some (.int .i64 x.d.2) ∧ W.cell? ⟨(bd.add (k * 6)).block, (bd.add (k * 6)).off + 2, none⟩ = some (.int .i64 x.u) ∧ W.cell? ⟨(bd.add (k * 6)).block, (bd.add (k * 6)).off + 3, none⟩ = some (.int .i64 x.t) ∧ W.cell? ⟨(bd.add (k * 6)).block, (bd.add (k * 6)).off + 4, none⟩ = some (.bool x.thin) ∧ W.cell? ⟨(bd.add (k * 6)).block, (bd.add (k * 6)).off + 5, none⟩ = some ov' ∧ Below wr.heap.size wr W)
        (first | exact ⟨a0, a1, a2, a3, a4, a5, b0, b1, b2, b3, b4, b5, hd⟩ | go_keep | (refine ⟨keep_cell hb ?_, keep_cell hb ?_, keep_cell hb ?_, keep_cell hb ?_, keep_cell hb ?_, keep_cell hb ?_, keep_cell hb ?_, keep_cell hb ?_, keep_cell hb ?_, keep_cell hb ?_, keep_cell hb ?_, keep_cell hb ?_, bchain ?_ hb⟩ <;> go_keep))
        (first | (go_at_call 13; refine (C _ (by first | exact hd | go_keep)).mono ?_; rintro e w1 ⟨rfl, hb⟩))
      have hbx : Below wr.heap.size wr w1 := bchain hd hb
      go_wp2
      go_roundw
      case rel => exact ⟨k + 1, by omega, by go_num, bchain hbw hbx⟩
      case measure => simp [intOf]; omega
    · go_wp2
      go_ret
      exact ⟨rfl, hbw⟩
end Go.Proofs.Ytghkjbekjkejpaa.O
