/- The walk of the document's Within. -/
import Derived.Test.YtenfbjlmfdiniaaWithin
namespace Go.Proofs.Ytenfbjlmfdiniaa
open Go.RowKit Go.Shelf

/-- What holds while it is walked. -/
structure RW (w : World) (l : List Int) (v : Value) (m : List Int) (u : Value) (W0 W : World) : Prop where
  fst : SetAt W w.heap.size l v
  snd : SetAt W (w.heap.size + 1) m u
  below : Below W0.heap.size W0 W
theorem RW.on {w : World} {l : List Int} {v : Value} {m : List Int} {u : Value} {W0 W W' : World} (h : RW w l v m u W0 W) (hb : Below W.heap.size W W') : RW w l v m u W0 W' :=
  ⟨h.fst.on hb, h.snd.on hb, bchain h.below hb⟩
/-- The first ones are the other's. -/
def hasTo (s t : List Int × List D) (k : Nat) : Prop := ∀ j (h : j < s.2.length), j < k → St.has t.1 t.2 s.2[j] = true
theorem hasTo_zero (s t : List Int × List D) : hasTo s t 0 := fun _ _ h => absurd h (Nat.not_lt_zero _)
theorem hasTo_step {s t : List Int × List D} {k : Nat} (h : hasTo s t k) (hk : k < s.2.length) (hp : St.has t.1 t.2 s.2[k] = true) : hasTo s t (k + 1) := fun j hj h1 => by
  by_cases e : j = k
  · subst e; exact hp
  · exact h j hj (by omega)
theorem wit_no {s t : List Int × List D} {k : Nat} (hk : k < s.2.length) (hp : St.has t.1 t.2 s.2[k] = false) : wit s t = false := by
  have : (s.2.any fun d => !St.has t.1 t.2 d) = true := List.any_eq_true.2 ⟨s.2[k], List.getElem_mem hk, by rw [hp]; rfl⟩
  unfold wit
  rw [this]
  simp
theorem wit_rest {s t : List Int × List D} (h : hasTo s t s.2.length) : wit s t = Vc.within s.1 t.1 := by
  have : (s.2.any fun d => !St.has t.1 t.2 d) = false := by
    rw [List.any_eq_false]
    intro d hd
    obtain ⟨k, hk, rfl⟩ := List.mem_iff_getElem.1 hd
    rw [h k hk hk]
    simp
  unfold wit
  rw [this]
  simp
/-- The first ones are no greater. -/
def leTo (s t : List Int × List D) (k : Nat) : Prop := ∀ j, j < k → s.1.getD j 0 ≤ t.1.getD j 0
theorem leTo_zero (s t : List Int × List D) : leTo s t 0 := fun _ h => absurd h (Nat.not_lt_zero _)
theorem leTo_step {s t : List Int × List D} {k : Nat} (h : leTo s t k) (hp : s.1.getD k 0 ≤ t.1.getD k 0) : leTo s t (k + 1) := fun j h1 => by
  by_cases e : j = k
  · subst e; exact hp
  · exact h j (by omega)

set_option maxRecDepth 20000 in
set_option maxHeartbeats 1000000 in
theorem refWithin_any (s t : List Int × List D) (hs : St.Std s.1 s.2) (ht : St.Std t.1 t.2) (hn1 : s.2.length ≤ 1000000) (hn2 : t.2.length ≤ 1000000) (v u : Value) (w : World) (hd : dotsIn w v s.2) (he : dotsIn w u t.2) :
    Calls Try.prog 25 #[setV s.1 v, setV t.1 u] w fun e w' => e = .returned (.bool (wit s t)) ∧ Below w.heap.size w w' := by
  have hl := hs.len
  have hm := ht.len
  obtain ⟨W0, hW0⟩ : ∃ W0, W0 = (w.alloc (.cells (setC s.1 v).toArray 26)).alloc (.cells (setC t.1 u).toArray 26) := ⟨_, rfl⟩
  have hB0 : Below w.heap.size w W0 := by rw [hW0]; exact below_new2 _ _ _
  have hA0 : SetAt W0 w.heap.size s.1 v := by rw [hW0]; exact (SetAt.new w s.1 v).alloc _
  have hA1 : SetAt W0 (w.heap.size + 1) t.1 u := by
    rw [hW0]
    have := SetAt.new (w.alloc (.cells (setC s.1 v).toArray 26)) t.1 u
    simpa using this
  have HHH : Hid (∀ W, Below W0.heap.size W0 W → ∀ x, Calls Try.prog 13 #[setV t.1 u, dV x] W fun e w' => e = .returned (.bool (St.has t.1 t.2 x)) ∧ Below W.heap.size W w') := fun W hW x => refHasSet_any t.1 hm u t.2 x W ((he.on hB0).on hW) hn2
  obtain ⟨ao, ca, rfl, _, hc⟩ := hd.on hB0
  obtain ⟨bo, cb, rfl, _, hc2⟩ := he.on hB0
  have HC : Hid (∀ k (h : k < s.2.length), ∃ ad, ao = some ad ∧ W0.cell? (ad.add (k * 2)) = some (.int .i64 (s.2[k]).1) ∧ W0.cell? ⟨(ad.add (k * 2)).block, (ad.add (k * 2)).off + 1, none⟩ = some (.int .i64 (s.2[k]).2)) := hc
  have HC2 : Hid (∀ k (h : k < t.2.length), ∃ ad, bo = some ad ∧ W0.cell? (ad.add (k * 2)) = some (.int .i64 (t.2[k]).1) ∧ W0.cell? ⟨(ad.add (k * 2)).block, (ad.add (k * 2)).off + 1, none⟩ = some (.int .i64 (t.2[k]).2)) := hc2
  have HA : Hid (SetAt W0 w.heap.size s.1 (.slice ao s.2.length ca)) := hA0
  have HA2 : Hid (SetAt W0 (w.heap.size + 1) t.1 (.slice bo t.2.length cb)) := hA1
  have HB : Hid (Below w.heap.size w W0) := hB0
  have HST : Hid (St.Std t.1 t.2) := ht
  have HVS : Hid (Vc.right s.1 = true) := hs.vec
  obtain ⟨n, hn0⟩ : ∃ n, n = s.2.length := ⟨_, rfl⟩
  obtain ⟨p, hp0⟩ : ∃ p, p = t.2.length := ⟨_, rfl⟩
  have HN : Hid (n = s.2.length) := hn0
  have HP : Hid (p = t.2.length) := hp0
  have hW0' := hW0
  rw [← hn0, ← hp0] at hW0'
  rw [← hn0] at hn1 HA ⊢
  rw [← hp0] at hn2 HA2 HHH ⊢
  clear hd he hB0 hc hc2 hA0 hA1 hW0 hs ht hn0 hp0
  go_enter Try.func25, Try.ntmps25
  go_wp2
  rw [← hW0']
  clear hW0'
  go_loopw [5] (fun i wr => ∃ k : Nat, k ≤ n ∧ i = .int .i64 k ∧ Hid (hasTo s t k) ∧ Below W0.heap.size W0 wr) (fun i _ => n - (intOf i).toNat)
  case atStart => exact ⟨0, by omega, rfl, hasTo_zero _ _, Below.refl _ _⟩
  case round =>
    obtain ⟨k, hk, rfl, HT, hbw⟩ := hrel
    have hAr := HA.out.on hbw
    have m0 := hAr.more hl
    by_cases hlt : k < n
    · have hkd : k < s.2.length := by have := HN.out; omega
      obtain ⟨ad, rfl, c0, c1⟩ := HC.out k hkd
      have hcell : ∀ W, Below W0.heap.size W0 W → W.cell? (ad.add (k * 2)) = some (.int .i64 (s.2[k]).1) ∧ W.cell? ⟨(ad.add (k * 2)).block, (ad.add (k * 2)).off + 1, none⟩ = some (.int .i64 (s.2[k]).2) := fun W hW => ⟨keep_cell hW c0, keep_cell hW c1⟩
      have hRW : RW w s.1 (.slice (some ad) n ca) t.1 (.slice bo p cb) W0 wr.drew := ⟨hAr.drew, (HA2.out.on hbw).drew, hbw.drew⟩
      have HH := fun W (h : RW w s.1 (.slice (some ad) n ca) t.1 (.slice bo p cb) W0 W) => HHH.out W h.below s.2[k]
      cases hq : St.has t.1 t.2 s.2[k] with
      | true =>
        have HT' : Hid (hasTo s t (k + 1)) := by have h := hasTo_step HT.out hkd hq; exact h
        rw [hq] at HH
        clear hq c0 c1 HT
        generalize s.2[k] = x at *
        go_wp2
        refine wp_region_held_drew (S := RW w s.1 (.slice (some ad) n ca) t.1 (.slice bo p cb) W0) (by kernel_rfl) (hRW) (fun hH0 => ?_)
        refine held_take (i := 0) (o := { dst := some 16, op := Op.load 26 (Operand.tmp 3), type := 26, pos := "ref.go:96", after := #[], guard := none }) (v := setV t.1 (.slice bo p cb)) (by kernel_rfl) (by kernel_rfl) (by kernel_rfl) (by kernel_rfl) (fun _ _ _ h => h) (by kernel_rfl) (fun _ h => exec_set rfl hm (by kernel_rfl) h.snd) hH0 ?_
        refine held_take (i := 1) (o := { dst := some 17, op := Op.fieldAddr 26 (Operand.tmp 2) 1, type := 0, pos := "ref.go:96", after := #[], guard := none }) (v := .pointer (some ⟨w.heap.size, 16, none⟩)) (by kernel_rfl) (by kernel_rfl) (by kernel_rfl) (by kernel_rfl) (fun _ _ _ h => h) (by kernel_rfl) (fun _ _ => by kernel_rfl) hH0 ?_
        refine held_take (i := 2) (o := { dst := some 18, op := Op.load 24 (Operand.tmp 17), type := 24, pos := "ref.go:96", after := #[{ on := 1, ground := Ground.data }], guard := none }) (v := .slice (some ad) n ca) (by kernel_rfl) (by kernel_rfl) (by kernel_rfl) (by kernel_rfl) (fun _ _ _ h => h) (by kernel_rfl) (fun _ h => exec_more rfl (by kernel_rfl) (h.fst.more hl)) hH0 ?_
        refine held_take (i := 3) (o := { dst := some 19, op := Op.move (Operand.tmp 5), type := 3, pos := "ref.go:96", after := #[], guard := none }) (v := .int .i64 (k : Int)) (by kernel_rfl) (by kernel_rfl) (by kernel_rfl) (by kernel_rfl) (fun _ _ _ h => h) (by kernel_rfl) (fun _ _ => by kernel_rfl) hH0 ?_
        refine held_take (i := 4) (o := { dst := some 20, op := Op.indexAddr 24 (Operand.tmp 18) (Operand.tmp 19), type := 0, pos := "ref.go:96", after := #[{ on := 2, ground := Ground.data }, { on := 3, ground := Ground.data }], guard := none }) (v := .pointer (some (ad.add (k * 2)))) (by kernel_rfl) (by kernel_rfl) (by kernel_rfl) (by kernel_rfl) (fun _ _ _ h => h) (by kernel_rfl) (fun W _ => exec_idx (n := n) (c := ca) rfl (by kernel_rfl) (by kernel_rfl) hlt W) hH0 ?_
        refine held_take (i := 5) (o := { dst := some 21, op := Op.load 28 (Operand.tmp 20), type := 28, pos := "ref.go:96", after := #[{ on := 4, ground := Ground.data }], guard := none }) (v := dV x) (by kernel_rfl) (by kernel_rfl) (by kernel_rfl) (by kernel_rfl) (fun _ _ _ h => h) (by kernel_rfl) (fun W h => exec_row rfl (by kernel_rfl) (hcell W h.below).1 (hcell W h.below).2) hH0 ?_
        refine held_callX (i := 6) (o := { dst := some 22, op := Op.call { callee := Callee.value (Operand.func 13), args := #[Operand.tmp 16, Operand.tmp 21], argTypes := #[26, 28] }, type := 4, pos := "ref.go:96", after := #[{ on := 0, ground := Ground.data }, { on := 5, ground := Ground.data }], guard := none }) (F := 13) (vs := #[setV t.1 (.slice bo p cb), dV x]) (by kernel_rfl) (by kernel_rfl) (by kernel_rfl) (fun _ => by kernel_rfl) (HH _ hH0) ?_
        rintro e w1 ⟨rfl, hb1⟩
        have hH1 := hH0.on hb1
        refine ⟨.bool true, rfl, hH1, ?_⟩
        refine held_take (i := 7) (o := { dst := some 23, op := Op.unOp UnOp.not 4 (Operand.tmp 22), type := 4, pos := "ref.go:96", after := #[{ on := 6, ground := Ground.data }], guard := none }) (v := .bool false) (by kernel_rfl) (by kernel_rfl) (by kernel_rfl) (by kernel_rfl) (fun _ _ _ h => h) (by kernel_rfl) (fun W _ => exec_un rfl (by kernel_rfl) (not_of true) W) hH1 ?_
        refine wpAnyH_done (by kernel_rfl) ?_ _
        simp only [Act.put, List.setIfInBounds_toArray, List.set_cons_zero, List.set_cons_succ]
        go_wp2
        go_roundw
        case rel => exact ⟨k + 1, by omega, by go_num, HT', hH1.below⟩
        case measure => simp [intOf]; omega
      | false =>
        have HL : Hid (wit s t = false) := by have h := wit_no hkd hq; exact h
        rw [hq] at HH
        clear hq c0 c1 HT
        generalize s.2[k] = x at *
        go_wp2
        refine wp_region_held_drew (S := RW w s.1 (.slice (some ad) n ca) t.1 (.slice bo p cb) W0) (by kernel_rfl) (hRW) (fun hH0 => ?_)
        refine held_take (i := 0) (o := { dst := some 16, op := Op.load 26 (Operand.tmp 3), type := 26, pos := "ref.go:96", after := #[], guard := none }) (v := setV t.1 (.slice bo p cb)) (by kernel_rfl) (by kernel_rfl) (by kernel_rfl) (by kernel_rfl) (fun _ _ _ h => h) (by kernel_rfl) (fun _ h => exec_set rfl hm (by kernel_rfl) h.snd) hH0 ?_
        refine held_take (i := 1) (o := { dst := some 17, op := Op.fieldAddr 26 (Operand.tmp 2) 1, type := 0, pos := "ref.go:96", after := #[], guard := none }) (v := .pointer (some ⟨w.heap.size, 16, none⟩)) (by kernel_rfl) (by kernel_rfl) (by kernel_rfl) (by kernel_rfl) (fun _ _ _ h => h) (by kernel_rfl) (fun _ _ => by kernel_rfl) hH0 ?_
        refine held_take (i := 2) (o := { dst := some 18, op := Op.load 24 (Operand.tmp 17), type := 24, pos := "ref.go:96", after := #[{ on := 1, ground := Ground.data }], guard := none }) (v := .slice (some ad) n ca) (by kernel_rfl) (by kernel_rfl) (by kernel_rfl) (by kernel_rfl) (fun _ _ _ h => h) (by kernel_rfl) (fun _ h => exec_more rfl (by kernel_rfl) (h.fst.more hl)) hH0 ?_
        refine held_take (i := 3) (o := { dst := some 19, op := Op.move (Operand.tmp 5), type := 3, pos := "ref.go:96", after := #[], guard := none }) (v := .int .i64 (k : Int)) (by kernel_rfl) (by kernel_rfl) (by kernel_rfl) (by kernel_rfl) (fun _ _ _ h => h) (by kernel_rfl) (fun _ _ => by kernel_rfl) hH0 ?_
        refine held_take (i := 4) (o := { dst := some 20, op := Op.indexAddr 24 (Operand.tmp 18) (Operand.tmp 19), type := 0, pos := "ref.go:96", after := #[{ on := 2, ground := Ground.data }, { on := 3, ground := Ground.data }], guard := none }) (v := .pointer (some (ad.add (k * 2)))) (by kernel_rfl) (by kernel_rfl) (by kernel_rfl) (by kernel_rfl) (fun _ _ _ h => h) (by kernel_rfl) (fun W _ => exec_idx (n := n) (c := ca) rfl (by kernel_rfl) (by kernel_rfl) hlt W) hH0 ?_
        refine held_take (i := 5) (o := { dst := some 21, op := Op.load 28 (Operand.tmp 20), type := 28, pos := "ref.go:96", after := #[{ on := 4, ground := Ground.data }], guard := none }) (v := dV x) (by kernel_rfl) (by kernel_rfl) (by kernel_rfl) (by kernel_rfl) (fun _ _ _ h => h) (by kernel_rfl) (fun W h => exec_row rfl (by kernel_rfl) (hcell W h.below).1 (hcell W h.below).2) hH0 ?_
        refine held_callX (i := 6) (o := { dst := some 22, op := Op.call { callee := Callee.value (Operand.func 13), args := #[Operand.tmp 16, Operand.tmp 21], argTypes := #[26, 28] }, type := 4, pos := "ref.go:96", after := #[{ on := 0, ground := Ground.data }, { on := 5, ground := Ground.data }], guard := none }) (F := 13) (vs := #[setV t.1 (.slice bo p cb), dV x]) (by kernel_rfl) (by kernel_rfl) (by kernel_rfl) (fun _ => by kernel_rfl) (HH _ hH0) ?_
        rintro e w1 ⟨rfl, hb1⟩
        have hH1 := hH0.on hb1
        refine ⟨.bool false, rfl, hH1, ?_⟩
        refine held_take (i := 7) (o := { dst := some 23, op := Op.unOp UnOp.not 4 (Operand.tmp 22), type := 4, pos := "ref.go:96", after := #[{ on := 6, ground := Ground.data }], guard := none }) (v := .bool true) (by kernel_rfl) (by kernel_rfl) (by kernel_rfl) (by kernel_rfl) (fun _ _ _ h => h) (by kernel_rfl) (fun W _ => exec_un rfl (by kernel_rfl) (not_of false) W) hH1 ?_
        refine wpAnyH_done (by kernel_rfl) ?_ _
        simp only [Act.put, List.setIfInBounds_toArray, List.set_cons_zero, List.set_cons_succ]
        go_wp2
        go_ret
        exact ⟨ret_bool HL.out.symm, bchain HB.out hH1.below⟩
    · obtain rfl : k = n := by omega
      have HL : Hid (wit s t = Vc.within s.1 t.1) := by
        have h := HT.out
        rw [HN.out] at h
        have h := wit_rest h
        exact h
      go_wp2
      clear hAr m0
      go_loopw [6, 7, 8] (fun r _ _ wr => ∃ q : Nat, q ≤ 16 ∧ r = .int .i64 q ∧ Hid (leTo s t q) ∧ Below W0.heap.size W0 wr) (fun r _ _ _ => 16 - (intOf r).toNat)
      case atStart => exact ⟨0, by omega, rfl, leTo_zero _ _, hbw⟩
      case round =>
        clear hbw
        obtain ⟨q, hq, rfl, HQ, hbw⟩ := hrel
        by_cases hq16 : q < 16
        · have hq16' : (q : Int) < 16 := by omega
          have hAr := HA.out.on hbw
          have hBr := HA2.out.on hbw
          have hc1 := hAr.cell (k := q) (by omega)
          have hc2 := hBr.cell (k := q) (by omega)
          have hix := indexAt_vec w.heap.size q hq16
          have hix2 := indexAt_vec (w.heap.size + 1) q hq16
          have m2 := hBr.more hm
          have HG : Hid (∀ k (h : k < t.2.length), (t.2[k]).1 = (q : Int) → t.1.getD q 0 + 1 < (t.2[k]).2) := fun k h e => by
            have hg := (HST.out.gap _ (List.getElem_mem h)).2
            simp only [St.at', e, Int.toNat_natCast] at hg
            exact hg
          have hvb := Vc.right_iff.1 HST.out.vec q (by omega)
          have HQ' : Hid (s.1.getD q 0 ≤ t.1.getD q 0 → leTo s t (q + 1)) := fun h => leTo_step HQ.out h
          have HQN : Hid (¬ s.1.getD q 0 ≤ t.1.getD q 0 → wit s t = false) := fun h => by
            rw [HL.out]
            have h2 : ¬ Vc.within s.1 t.1 = true := fun e => h (Vc.within_iff.1 e q (by omega))
            simpa using h2
          generalize s.1.getD q 0 = x at *
          generalize t.1.getD q 0 = y at *
          have hwy : IntKind.i64.wrap (y + 1) = y + 1 := by simp [IntKind.wrap, IntKind.bits, IntKind.signed]; omega
          clear hAr hBr
          go_wp2
          obtain ⟨wo, rfl⟩ : ∃ wo : World, wo = wr := ⟨_, rfl⟩
          go_loopw [7, 8] (fun a i wr => ∃ j : Nat, j ≤ p ∧ a = .int .i64 y ∧ i = .int .i64 j ∧ Below wo.heap.size wo wr) (fun _ i _ => p - (intOf i).toNat)
          case atStart => exact ⟨0, by omega, rfl, rfl, Below.refl _ _⟩
          case round =>
            obtain ⟨j, hj, rfl, rfl, hb2⟩ := hrel
            have m2 := keep_cell hb2 m2
            have hc1 := keep_cell hb2 hc1
            have hbw2 := bchain hbw hb2
            by_cases hjp : j < p
            · have hjt : j < t.2.length := by have := HP.out; omega
              obtain ⟨ad, rfl, c0, c1⟩ := HC2.out j hjt
              have c0 := keep_cell hbw2 c0
              have c1 := keep_cell hbw2 c1
              have hgj := HG.out j hjt
              generalize t.2[j] = z at *
              have hj1 : (j : Int) < (p : Int) := by omega
              have hj0 : (0 : Int) ≤ (j : Int) := by omega
              by_cases hz : z.1 = (q : Int)
              · have hz2 : ¬ z.2 = y + 1 := by have := hgj hz; omega
                rw [hz] at c0
                clear hgj hz
                generalize z.2 = z2 at *
                go_wp2
                go_roundw
                case rel => exact ⟨j + 1, by omega, rfl, by go_num, hb2⟩
                case measure => simp [intOf]; omega
              · clear hgj
                generalize z.1 = z1 at *
                go_wp2
                go_roundw
                case rel => exact ⟨j + 1, by omega, rfl, by go_num, hb2⟩
                case measure => simp [intOf]; omega
            · obtain rfl : j = p := by omega
              by_cases hxy : x ≤ y
              · have hgt : ¬ x > y := by omega
                have HT2 : Hid (leTo s t (q + 1)) := by have h := HQ'.out hxy; exact h
                go_wp2
                go_roundw
                case rel => exact ⟨q + 1, by omega, by go_num, HT2, hbw2⟩
                case measure => simp [intOf]; omega
              · have HLL : Hid (wit s t = false) := by have h := HQN.out (by omega); exact h
                have hgt : x > y := by omega
                go_wp2
                go_ret
                exact ⟨ret_bool HLL.out.symm, bchain HB.out hbw2⟩
        · obtain rfl : q = 16 := by omega
          have HLL : Hid (wit s t = true) := by
            have h : wit s t = true := by
              rw [HL.out, Vc.within_iff]
              intro k hk
              rw [hl] at hk
              exact HQ.out k hk
            exact h
          go_wp2
          go_ret
          exact ⟨ret_bool HLL.out.symm, bchain HB.out hbw⟩
end Go.Proofs.Ytenfbjlmfdiniaa
