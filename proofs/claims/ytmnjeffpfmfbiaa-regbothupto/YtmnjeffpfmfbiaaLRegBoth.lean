/- The walk of the statement RegBoth. -/
import Derived.Test.YtmnjeffpfmfbiaaVAwake
import Derived.Test.YtmnjeffpfmfbiaaCoversAll
namespace Go.Proofs.Ytmnjeffpfmfbiaa.O
open Go.RowKit

/-! ### The transactions: Puts that cover nothing -/
theorem both_few (p : List (List UInt8)) (l : List Rg.Va) : Few13 (Rg.both p 0 l) := fun t ht => by
  obtain ⟨v, _, j, rfl⟩ := Rg.both_mem ht
  exact ⟨by simp [Rg.putT], fun o ho => by
    rw [show o = Rg.putOp p v from List.mem_singleton.1 ho]
    exact ⟨by simp [Rg.putOp], fun x hx => by simp [Rg.putOp] at hx⟩⟩
theorem both_ops (p : List (List UInt8)) {l : List Rg.Va} {k : Nat} {t : Tx.Txn} (ht : t ∈ Rg.both p k l) : ∃ v ∈ l, ∃ j, k ≤ j ∧ j < k + l.length ∧ t = Rg.putT p j v := by
  induction l generalizing k with
  | nil => simp [Rg.both] at ht
  | cons v r ih =>
    rcases List.mem_cons.1 ht with e | e
    · exact ⟨v, by simp, k, Nat.le_refl _, by simp, e⟩
    · obtain ⟨u, hu, j, h1, h2, e⟩ := ih e
      exact ⟨u, List.mem_cons_of_mem _ hu, j, by omega, by simp only [List.length_cons]; omega, e⟩
theorem both_dots (p : List (List UInt8)) {l : List Rg.Va} (hl : l.length ≤ 12) : ∀ t ∈ Rg.both p 0 l, (Lit.int .i64 t.d.1).wf = true ∧ (Lit.int .i64 t.d.2).wf = true := fun t ht => by
  obtain ⟨v, _, j, _, h2, rfl⟩ := both_ops p ht
  have hj : j < 12 := by omega
  refine ⟨?_, by show (Lit.int .i64 1).wf = true; decide⟩
  show (Lit.int .i64 (j : Int)).wf = true
  match j, hj with
  | 0, _ | 1, _ | 2, _ | 3, _ | 4, _ | 5, _ | 6, _ | 7, _ | 8, _ | 9, _ | 10, _ | 11, _ => decide
theorem both_short {l : List Rg.Va} (hr : ∀ v ∈ l, v.2.2.length ≤ 64) {sn : D → Bool} {xs : List IE} (he : xs.map (·.1) = Lv.all (Rg.both [[97]] 0 l) sn) : ShortI xs := fun x hx => by
  have hm : x.1 ∈ Lv.all (Rg.both [[97]] 0 l) sn := by rw [← he]; exact List.mem_map.2 ⟨x, hx, rfl⟩
  obtain ⟨t, ht, h⟩ := List.mem_flatMap.1 hm
  obtain ⟨v, hv, j, rfl⟩ := Rg.both_mem ht
  have ho : x.1.o = Rg.putOp [[97]] v := by
    unfold Lv.itemsOf at h
    split at h
    · obtain ⟨q, hq, _, _, e⟩ := Lv.mem_items.1 h
      rw [e]
      exact List.mem_singleton.1 (List.getElem_mem hq)
    · simp at h
  rw [ho]
  have := hr v hv
  unfold Os.short
  rw [Bool.and_eq_true, Bool.and_eq_true]
  exact ⟨⟨(by decide : Pt.short [[97]] = true), decide_eq_true (by show v.2.2.length ≤ 200; omega)⟩, (by decide : decide (([] : List U).length ≤ 300) = true)⟩
theorem seen_none (d : D) : seenD [] d = true := rfl
theorem both_regV (l : List Rg.Va) : regV (Lv.all (Rg.both [[97]] 0 l) (seenD [])) [[97]] = Rg.vals l := by
  unfold regV
  rw [Rg.both_all [[97]] seen_none l]
theorem right_len64 {x : Rg.Va} (h : Vl.right x.1 x.2.1 x.2.2 = true) : x.2.2.length ≤ 64 := (Vl.right_iff.1 h).len
/-- All of so many are right. -/
def rightTo (l : List Rg.Va) (k : Nat) : Prop := ∀ j (h : j < l.length), j < k → Vl.right l[j].1 l[j].2.1 l[j].2.2 = true
theorem rightTo_zero (l : List Rg.Va) : rightTo l 0 := fun _ _ h => absurd h (Nat.not_lt_zero _)
theorem rightTo_step {l : List Rg.Va} {k : Nat} (h : rightTo l k) (hk : k < l.length) (hr : Vl.right l[k].1 l[k].2.1 l[k].2.2 = true) : rightTo l (k + 1) := fun j hj hjk => by
  by_cases e : j = k
  · subst e; exact hr
  · exact h j hj (by omega)
theorem rightTo_all {l : List Rg.Va} {k : Nat} (h : rightTo l k) (hk : ¬ k < l.length) : ∀ v ∈ l, v.2.2.length ≤ 64 := fun v hv => by
  obtain ⟨j, hj, rfl⟩ := List.mem_iff_getElem.1 hv
  exact right_len64 (h j hj (by omega))
/-- How often a value is among the first k. -/
def cntTo (g : List Rg.Va) (x : Rg.Va) (k : Nat) : Nat := (g.take k).countP fun y => decide (y = x)
theorem cntTo_hit {g : List Rg.Va} {x : Rg.Va} {k : Nat} (hk : k < g.length) (h : g[k] = x) : cntTo g x (k + 1) = cntTo g x k + 1 := by
  unfold cntTo
  rw [List.take_succ_eq_append_getElem hk, List.countP_append, List.countP_singleton, if_pos (by simp [h])]
theorem cntTo_miss {g : List Rg.Va} {x : Rg.Va} {k : Nat} (hk : k < g.length) (h : g[k] ≠ x) : cntTo g x (k + 1) = cntTo g x k := by
  unfold cntTo
  rw [List.take_succ_eq_append_getElem hk, List.countP_append, List.countP_singleton, if_neg (by simp [h])]
  rfl
theorem cntTo_le (g : List Rg.Va) (x : Rg.Va) (k : Nat) : cntTo g x k ≤ k := by
  unfold cntTo
  refine Nat.le_trans List.countP_le_length ?_
  rw [List.length_take]
  omega
/-- Once each, rising. -/
structure Told (l g : List Rg.Va) : Prop where
  once : ∀ x ∈ l, cntTo g x g.length = 1
  rise : ∀ k (h : k + 1 < g.length), Rg.comp (g[k]'(by omega)) g[k + 1] = -1
  len : g.length ≤ l.length
theorem told_vals (l : List Rg.Va) : Told l (Rg.vals l) := by
  refine ⟨fun x hx => ?_, fun k h => ?_, Rg.vals_len l⟩
  · unfold cntTo
    rw [List.take_length]
    exact Rg.vals_count hx
  · exact List.pairwise_iff_getElem.1 (Rg.vals_rise l) k (k + 1) (by omega) h (by omega)

/-- A row that was just laid is one's own. -/
theorem own_new (w : World) {B s n : Nat} {T : TypeId} {cs : List Value} (h : cs.length = n * s) (hB : B ≤ w.heap.size) (hn : n ≤ maxLen) : (w.alloc (.cells cs.toArray T)).ownsRow B T s (.slice (some ⟨w.heap.size, 0, none⟩) n n) n cs :=
  ⟨h, Or.inr ⟨w.heap.size, n, cs.toArray, rfl, hB, heap_alloc_new w _, Nat.le_refl _, hn, by simpa using h, by rw [← h]; simp⟩⟩
set_option maxRecDepth 20000 in
set_option maxHeartbeats 2000000 in
/-- put, with rows that are the call's own but for the path. -/
theorem put14_own (d : D) (t : Int) (pa : Option Addr) (pn pc B : Nat) (p : List (List UInt8)) (x : Rg.Va) (w : World) (hB : B ≤ w.heap.size) (hp : w.ownsRow B 9 1 (.slice pa pn pc) p.length (U.cellsS p)) :
    Calls Try.prog 17 #[dV d, .int .i64 t, .slice pa pn pc, vV x, .slice none 0 0] w fun e w' => ∃ ao c, e = .returned (txV (gT d t p x []) (.slice ao 1 c)) ∧ opsOwn w' B (.slice ao 1 c) [gO p x []] ∧ Below w.heap.size w w' := by
  obtain ⟨W1, hW1⟩ : ∃ W1, W1 = (w.alloc (.cells #[.int .i64 d.1, .int .i64 d.2] 45)).alloc (vO x) := ⟨_, rfl⟩
  have k1 : Below w.heap.size w W1 := by rw [hW1]; exact below_new2 _ _ _
  have e1 : W1.heap.size = w.heap.size + 1 + 1 := by rw [hW1]; simp
  obtain ⟨W2, hW2⟩ : ∃ W2, W2 = W1.alloc (txO (gT d t p x []) (.slice (some ⟨w.heap.size + 1 + 1 + 1, 0, none⟩) 1 1)) := ⟨_, rfl⟩
  have k2 : Below w.heap.size w W2 := by rw [hW2]; exact bchain k1 (below_new _ _)
  have e2 : W2.heap.size = w.heap.size + 1 + 1 + 1 := by rw [hW2]; simp [e1]
  have hX := below_new W2 (oO (gO p x []) (.slice pa pn pc) (.slice none 0 0))
  have hrow : (W2.alloc (oO (gO p x []) (.slice pa pn pc) (.slice none 0 0))).ownsRow B 60 7 (.slice (some ⟨W2.heap.size, 0, none⟩) 1 1) 1 (ocells [((gO p x [], .slice pa pn pc, .slice none 0 0) : OE)]) := own_new W2 (cs := ocells [((gO p x [], .slice pa pn pc, .slice none 0 0) : OE)]) rfl (by omega) (by unfold maxLen; omega)
  have ho : opsOwn (W2.alloc (oO (gO p x []) (.slice pa pn pc) (.slice none 0 0))) B (.slice (some ⟨W2.heap.size, 0, none⟩) 1 1) [gO p x []] := ⟨[((gO p x [], .slice pa pn pc, .slice none 0 0) : OE)], rfl, hrow, fun y hy => by
    rw [List.mem_singleton.1 hy]
    exact ⟨own_on hp (bchain k2 hX), World.ownsRow_nil _ _ _ _⟩⟩
  rw [e2] at ho
  have hBl := bchain k2 hX
  rw [hW2, hW1] at ho hBl
  clear hX e2 e1 k1 k2 hW1 hW2 hp hrow hB
  go_enter Try.func17, Try.ntmps17
  go_wp2
  refine bodyPost_ret (v := txV (gT d t p x []) (.slice (some ⟨w.heap.size + 1 + 1 + 1, 0, none⟩) 1 1)) (by simp [results, Try.results17, go_sem]) rfl ⟨_, _, rfl, ho, hBl⟩

set_option maxRecDepth 20000 in
set_option maxHeartbeats 4000000 in
theorem regBoth_walk (v : Value) (l : List Rg.Va) (w : World) (hln : l.length ≤ 2000000) (hlt : ∀ x ∈ l, x.2.2.length ≤ 2000000) (hv : valsIn w v l) :
    Calls Try.prog 4 #[v] w fun e w' => e = .returned (.bool true) ∧ Below w.heap.size w w' := by
  obtain ⟨ao, cap, rfl⟩ := hv.slice
  by_cases h12 : 12 < l.length
  · have h12' : (12 : Int) < (l.length : Int) := by omega
    clear hv hlt
    generalize l.length = n at *
    go_enter Try.func4, Try.ntmps4
    go_wp2_with (go_at_call 7; refine (awake_any _).mono ?_; rintro e w1 ⟨rfl, hb1⟩)
    go_ret
    exact ⟨rfl, hb1⟩
  · have h12' : ¬ (12 : Int) < (l.length : Int) := by omega
    have hl12 : l.length ≤ 12 := by omega
    obtain ⟨n, hn0⟩ : ∃ n, n = l.length := ⟨_, rfl⟩
    have HN : Hid (n = l.length) := hn0
    rw [← hn0] at hv h12' hl12 ⊢
    obtain ⟨W0, hW0⟩ : ∃ W0, W0 = w.alloc (.cells #[.string ⟨#[97]⟩] 9) := ⟨_, rfl⟩
    have hp := strs_one w [97]
    rw [show w.alloc (.cells #[.string ⟨[(97 : UInt8)].toArray⟩] 9) = W0 from hW0.symm] at hp
    have b0 : Below w.heap.size w W0 := by rw [hW0]; exact below_new _ _
    have HV : Hid (valsIn W0 (.slice ao n cap) l) := hv.on b0
    have HT : Hid (∀ x ∈ l, x.2.2.length ≤ 2000000) := hlt
    have HP : Hid (∀ W, Below W0.heap.size W0 W → U.strsAt W (.slice (some ⟨w.heap.size, 0, none⟩) 1 1) [[97]]) := by
      have h := fun W (hb : Below W0.heap.size W0 W) => U.strsAt_below hp hb (Nat.le_refl _)
      exact h
    have HQ : Hid (∀ W, Below W0.heap.size W0 W → W.ownsRow w.heap.size 9 1 (.slice (some ⟨w.heap.size, 0, none⟩) 1 1) 1 (U.cellsS [[97]])) := by
      have h : ∀ W, Below W0.heap.size W0 W → W.ownsRow w.heap.size 9 1 (.slice (some ⟨w.heap.size, 0, none⟩) 1 1) 1 (U.cellsS [[97]]) := fun W hb => own_on (by rw [hW0]; exact own_new w (cs := U.cellsS [[97]]) rfl (Nat.le_refl _) (by unfold maxLen; omega)) hb
      exact h
    have hw0 : Hid (w.heap.size ≤ W0.heap.size) := by have h := b0.size; exact h
    clear hn0 hv hlt hp h12 hln
    go_enter Try.func4, Try.ntmps4
    go_wp2
    rw [← hW0]
    clear hW0
    go_loopw [4, 5] (fun out i wr => ∃ (k : Nat) (acc : List TE), k ≤ n ∧ i = .int .i64 k ∧ Hid (rightTo l k) ∧ Hid (acc.map (·.1) = Rg.both [[97]] 0 (l.take k)) ∧ Hid (∀ x ∈ acc, opsOwn wr w.heap.size x.2 x.1.ops) ∧ wr.ownsRow W0.heap.size 48 6 out acc.length (tcells acc) ∧ Below W0.heap.size W0 wr) (fun _ i _ => n - (intOf i).toNat)
    case atStart =>
      have h1 : ∀ x ∈ ([] : List TE), opsOwn W0 w.heap.size x.2 x.1.ops := fun x hx => by simp at hx
      exact ⟨0, [], by omega, rfl, rightTo_zero l, by have h : ([] : List TE).map (·.1) = Rg.both [[97]] 0 (l.take 0) := by simp [Rg.both]
                                                      exact h, h1, World.ownsRow_nil _ _ _ _, Below.refl _ _⟩
    case round =>
      obtain ⟨k, acc, hk, rfl, HR, HA, HO, hown, hbw⟩ := hrel
      by_cases hkn : k < n
      · have hkx : k < l.length := by rw [← HN.out]; exact hkn
        obtain ⟨ad, rfl, hX⟩ := HV.out.get hkx
        obtain ⟨a0, a1, a2⟩ := hX.on hbw
        have HC := fun W => V.refRight_any l[k].1 l[k].2.1 l[k].2.2 W (HT.out _ (List.getElem_mem hkx))
        have hi0 : (0 : Int) ≤ (k : Int) := by omega
        have hi1 : (k : Int) < (n : Int) := by omega
        cases hr : Vl.right l[k].1 l[k].2.1 l[k].2.2 with
        | false =>
          rw [hr] at HC
          clear hr
          generalize l[k] = x at *
          go_wp2_with (first
            | (go_at_call 16; refine (HC _).mono ?_; rintro e w1 ⟨rfl, hb1⟩)
            | (go_at_call 7; refine (awake_any _).mono ?_; rintro e w2 ⟨rfl, hb2⟩)
            | go_in)
          go_ret
          exact ⟨rfl, bchain b0 (bchain hbw (bchain hb1 hb2))⟩
        | true =>
          rw [hr] at HC
          have HR' : Hid (rightTo l (k + 1)) := by have h := rightTo_step HR.out hkx hr; exact h
          have HS : Hid (Rg.both [[97]] 0 (l.take (k + 1)) = Rg.both [[97]] 0 (l.take k) ++ [Rg.putT [[97]] k l[k]]) := by have h := Rg.both_step [[97]] l hkx; exact h
          have HPu := fun W (hb : Below W0.heap.size W0 W) => put14_own ((k : Int), 1) 1 (some ⟨w.heap.size, 0, none⟩) 1 1 w.heap.size [[97]] l[k] W (Nat.le_trans hw0.out hb.size) (HQ.out W hb)
          have hroom : acc.length + 1 ≤ 1000000 := by
            have h2 := congrArg List.length HA.out
            rw [List.length_map, Rg.both_len, List.length_take] at h2
            omega
          clear hr HR
          generalize l[k] = x at *
          go_wp2_with (first
            | (go_at_call 16; refine (HC _).mono ?_; rintro e w1 ⟨rfl, hb1⟩; obtain ⟨a0, a1, a2⟩ := hX.on (bchain hbw hb1))
            | (go_at_call 17; refine (HPu _ (bchain hbw hb1)).mono ?_; rintro e w2 ⟨ao2, c2, rfl, ho2, hb2⟩; have hb12 := bchain hb1 hb2; have hbw2 := bchain hbw hb12; have hown2 := own_on hown hb12)
            | (at_builtin; refine append_txs rfl _ _ rfl W0.heap.size (bchain hbw2 (below_new w2 (txO (gT ((k : Int), 1) 1 [[97]] x []) (.slice ao2 1 c2)))).size _ acc rfl (own_on hown2 (below_new w2 (txO (gT ((k : Int), 1) 1 [[97]] x []) (.slice ao2 1 c2)))) _ [((gT ((k : Int), 1) 1 [[97]] x [], .slice ao2 1 c2) : TE)] 1 rfl (new_tx w2 (gT ((k : Int), 1) 1 [[97]] x [], .slice ao2 1 c2)) (tcells_one (fun y hy => by rw [List.mem_singleton.1 hy]; exact ⟨_, _, _, rfl⟩)) hroom ?_; intro v3 w3 hown3 hg3)
            | go_in)
          have hb3 : Below W0.heap.size W0 w3 := (bchain hbw2 (below_new w2 (txO (gT ((k : Int), 1) 1 [[97]] x []) (.slice ao2 1 c2)))).grown hg3 (bchain hbw2 (below_new w2 (txO (gT ((k : Int), 1) 1 [[97]] x []) (.slice ao2 1 c2)))).size (fun g e => (hown2.lt g e).1)
          have HA' : Hid ((acc ++ [((gT ((k : Int), 1) 1 [[97]] x [], .slice ao2 1 c2) : TE)]).map (·.1) = Rg.both [[97]] 0 (l.take (k + 1))) := by
            have h : (acc ++ [((gT ((k : Int), 1) 1 [[97]] x [], .slice ao2 1 c2) : TE)]).map (·.1) = Rg.both [[97]] 0 (l.take (k + 1)) := by
              rw [HS.out, List.map_append, HA.out]
              rfl
            exact h
          have HO' : Hid (∀ y ∈ acc ++ [((gT ((k : Int), 1) 1 [[97]] x [], .slice ao2 1 c2) : TE)], opsOwn w3 w.heap.size y.2 y.1.ops) := by
            have hup : ∀ {q os}, opsOwn w2 w.heap.size q os → opsOwn w3 w.heap.size q os := fun h =>
              (h.on (below_new w2 (txO (gT ((k : Int), 1) 1 [[97]] x []) (.slice ao2 1 c2)))).map fun he k9 => own_grown_other k9 hg3 (own_types k9 (own_on hown2 (below_new w2 (txO (gT ((k : Int), 1) 1 [[97]] x []) (.slice ao2 1 c2)))) he)
            have h : ∀ y ∈ acc ++ [((gT ((k : Int), 1) 1 [[97]] x [], .slice ao2 1 c2) : TE)], opsOwn w3 w.heap.size y.2 y.1.ops := fun y hy => by
              rcases List.mem_append.1 hy with e | e
              · exact hup ((HO.out y e).on hb12)
              · rw [List.mem_singleton.1 e]
                exact hup ho2
            exact h
          go_roundw
          case rel => exact ⟨k + 1, _, by omega, by go_num, HR', HA', HO', hown3, hb3⟩
          case measure => simp [intOf]; omega
      · have HE : Hid (acc.map (·.1) = Rg.both [[97]] 0 l) := by
          have h := HA.out
          rw [List.take_of_length_le (by rw [← HN.out]; omega)] at h
          exact h
        have H64 : Hid (∀ x ∈ l, x.2.2.length ≤ 64) := by have h := rightTo_all HR.out (by rw [← HN.out]; exact hkn); exact h
        have hts : txsIn wr u4 (Rg.both [[97]] 0 l) := by
          rw [← HE.out]
          exact txsE_own hown fun x hx => opsIn_own (HO.out x hx)
        have HAll := (all_any u4 (.slice none 0 0) (Rg.both [[97]] 0 l) [] wr hts (T.cntsIn_nil wr) (by rw [Rg.both_len, ← HN.out]; omega) (both_few [[97]] l) (both_dots [[97]] (by rw [← HN.out]; exact hl12)) (by simp) Ct.std_nil)
        have hTo := told_vals l
        have HVa : Hid (∀ r xs W, Below W0.heap.size W0 W → itsE W r xs → xs.map (·.1) = Lv.all (Rg.both [[97]] 0 l) (seenD []) → Calls Try.prog 14 #[r, .slice (some ⟨w.heap.size, 0, none⟩) 1 1] W fun e w' => ∃ q, e = .returned q ∧ valsIn w' q (Rg.vals l) ∧ Below W.heap.size W w') := by
          have h : ∀ r xs W, Below W0.heap.size W0 W → itsE W r xs → xs.map (·.1) = Lv.all (Rg.both [[97]] 0 l) (seenD []) → Calls Try.prog 14 #[r, .slice (some ⟨w.heap.size, 0, none⟩) 1 1] W fun e w' => ∃ q, e = .returned q ∧ valsIn w' q (Rg.vals l) ∧ Below W.heap.size W w' := fun r xs W hb h1 h2 => by
            have hn : xs.length ≤ 1000000 := by
              have h3 := congrArg List.length h2
              have h4 : (Lv.all (Rg.both [[97]] 0 l) (seenD [])).length = l.length := by
                have h5 := congrArg List.length (Rg.both_all [[97]] seen_none l)
                rw [List.length_map] at h5
                have h6 : Lv.atLeaf (Lv.all (Rg.both [[97]] 0 l) (seenD [])) [[97]] 1 = Lv.all (Rg.both [[97]] 0 l) (seenD []) := List.filter_eq_self.2 fun i hi => by
                  obtain ⟨t, ht, h⟩ := List.mem_flatMap.1 hi
                  obtain ⟨v, hv, j, rfl⟩ := Rg.both_mem ht
                  unfold Lv.itemsOf at h
                  split at h
                  · obtain ⟨q, hq, _, _, e⟩ := Lv.mem_items.1 h
                    rw [e]
                    have e9 := List.mem_singleton.1 (List.getElem_mem hq)
                    simp only [e9]
                    rfl
                  · simp at h
                rw [h6] at h5
                exact h5
              rw [List.length_map, h4, ← HN.out] at h3
              omega
            have h := values_its h1 h2 (HP.out W hb) hn (both_short H64.out h2)
            rw [both_regV] at h
            exact h
          exact h
        clear hts hown HA HO HR
        obtain ⟨g, hg⟩ : ∃ g, g = Rg.vals l := ⟨_, rfl⟩
        rw [← hg] at hTo HVa
        have HG64 : Hid (∀ x ∈ g, x.2.2.length ≤ 64) := by
          have h : ∀ x ∈ g, x.2.2.length ≤ 64 := fun x hx => H64.out x (Rg.mem_vals.1 (by rw [← hg]; exact hx))
          exact h
        have HTo : Hid (Told l g) := hTo
        have hgl : g.length ≤ n := by rw [HN.out]; exact hTo.len
        clear hTo hg
        go_wp2_with (first
          | (go_at_call 14; refine (HVa.out _ xs _ (bchain hbw hb1) hx hxe).mono ?_; rintro e w2 ⟨q, rfl, hq, hb2⟩; obtain ⟨qo, qc, e9⟩ := hq.slice; subst e9; have hb12 := bchain hbw (bchain hb1 hb2))
          | (go_at_call 8; refine HAll.mono ?_; rintro e w1 ⟨rx, xs, rfl, hx, hxe, hb1⟩)
          | go_in)
        obtain ⟨m, hm0⟩ : ∃ m, m = g.length := ⟨_, rfl⟩
        have HM : Hid (m = g.length) := hm0
        rw [← hm0] at hq hgl ⊢
        have HQv : Hid (valsIn w2 (.slice qo m qc) g) := hq
        clear hq hm0 hx hxe HAll HVa
        go_loopw [7, 8, 9] (fun i _ _ wr => ∃ k : Nat, k ≤ n ∧ i = .int .i64 k ∧ Below w2.heap.size w2 wr) (fun i _ _ _ => n - (intOf i).toNat)
        case atStart => exact ⟨0, by omega, rfl, Below.refl _ _⟩
        case round =>
          obtain ⟨i, hi, rfl, hbi⟩ := hrel
          by_cases hin : i < n
          · have hix : i < l.length := by rw [← HN.out]; exact hin
            obtain ⟨ad, rfl, hX⟩ := HV.out.get hix
            have H1 : Hid (cntTo g l[i] m = 1) := by have h := HTo.out.once _ (List.getElem_mem hix); rw [← HM.out] at h; exact h
            have hi0 : (0 : Int) ≤ (i : Int) := by omega
            have hi1 : (i : Int) < (n : Int) := by omega
            have HX : Hid (∀ W, Below w2.heap.size w2 W → VcAt W (ad.add (i * 3)) l[i]) := by
              have h := fun W (hb : Below w2.heap.size w2 W) => hX.on (bchain hb12 hb)
              exact h
            clear hX
            generalize l[i] = x at *
            go_wp2
            go_loopw [8, 9] (fun c j wr => ∃ k : Nat, k ≤ m ∧ j = .int .i64 k ∧ c = .int .i64 ((cntTo g x k : Nat) : Int) ∧ Below w2.heap.size w2 wr) (fun _ j _ => m - (intOf j).toNat)
            case atStart => exact ⟨0, by omega, rfl, rfl, hbi⟩
            case round =>
              clear hbi
              obtain ⟨k, hk, rfl, rfl, hbj⟩ := hrel
              by_cases hkm : k < m
              · have hkx : k < g.length := by rw [← HM.out]; exact hkm
                obtain ⟨gd, rfl, hG⟩ := HQv.out.get hkx
                obtain ⟨a0, a1, a2⟩ := hG.on hbj
                obtain ⟨b0', b1', b2'⟩ := HX.out _ hbj
                have hE := eql_va g[k] x
                have hk0 : (0 : Int) ≤ (k : Int) := by omega
                have hk1 : (k : Int) < (m : Int) := by omega
                have hcl := cntTo_le g x k
                by_cases he : g[k] = x
                · have HC : Hid (cntTo g x (k + 1) = cntTo g x k + 1) := by have h := cntTo_hit hkx he; exact h
                  simp only [he, decide_true] at hE
                  rw [he] at a0 a1 a2
                  clear hG he
                  generalize cntTo g x k = c at *
                  go_wp2
                  go_region
                  all_goals
                    go_wp2
                    go_roundw
                    case rel => exact ⟨k + 1, by omega, by go_num, by rw [HC.out]; go_num, hbj.drew⟩
                    case measure => simp [intOf]; omega
                · have HC : Hid (cntTo g x (k + 1) = cntTo g x k) := by have h := cntTo_miss hkx he; exact h
                  simp only [he, decide_false] at hE
                  clear hG
                  generalize cntTo g x k = c at *
                  generalize g[k] = y at *
                  go_wp2
                  go_region
                  all_goals
                    go_wp2
                    go_roundw
                    case rel => exact ⟨k + 1, by omega, by go_num, by rw [HC.out], hbj.drew⟩
                    case measure => simp [intOf]; omega
              · obtain rfl : k = m := by omega
                rw [H1.out]
                go_wp2
                go_roundw
                case rel => exact ⟨i + 1, by omega, by go_num, hbj⟩
                case measure => simp [intOf]; omega
          · go_wp2
            go_loopw [10] (fun i wr => ∃ k : Nat, (k ≤ m ∧ i = .int .i64 ((k + 1 : Nat) : Int)) ∧ Below w2.heap.size w2 wr) (fun i _ => m + 1 - (intOf i).toNat)
            case atStart => exact ⟨0, ⟨by omega, by go_num⟩, hbi⟩
            case round =>
              clear hbi
              obtain ⟨k, ⟨hk, rfl⟩, hbj⟩ := hrel
              by_cases hkm : k + 1 < m
              · have hkx : k + 1 < g.length := by rw [← HM.out]; exact hkm
                obtain ⟨gd, rfl, hG⟩ := HQv.out.get hkx
                obtain ⟨gd', e9, hG'⟩ := HQv.out.get (k := k) (by omega)
                cases e9
                have hcmp := HTo.out.rise k hkx
                have htx : (g[k]'(by omega)).2.2.length ≤ 2000000 := Nat.le_trans (HG64.out _ (List.getElem_mem _)) (by omega)
                have HC := fun W => V.refComp_any (g[k]'(by omega)).1 (g[k]'(by omega)).2.1 (g[k]'(by omega)).2.2 g[k + 1].1 g[k + 1].2.1 g[k + 1].2.2 W htx
                rw [show Rg.comp ((g[k]'(by omega)).1, (g[k]'(by omega)).2.1, (g[k]'(by omega)).2.2) (g[k + 1].1, g[k + 1].2.1, g[k + 1].2.2) = -1 from hcmp] at HC
                obtain ⟨a0, a1, a2⟩ := hG.on hbj
                obtain ⟨c0, c1, c2⟩ := hG'.on hbj
                have hk0 : (0 : Int) ≤ (k : Int) := by omega
                have hk1 : (k : Int) + 1 < (m : Int) := by omega
                have hk2 : (0 : Int) ≤ (k : Int) + 1 := by omega
                have hk3 : (k : Int) < (m : Int) := by omega
                have hk4 : ((k : Int) + 1).toNat = k + 1 := by omega
                have hk5 : IntKind.i64.wrap (k : Int) = (k : Int) := U.wrap_i64 (by omega) (by omega)
                have hk6 : IntKind.i64.wrap ((k : Int) + 1 - 1) = (k : Int) := by rw [Int.add_sub_cancel]; exact hk5
                clear hG hG' hcmp htx
                generalize (g[k]'(by omega)) = y at *
                generalize g[k + 1] = z at *
                go_wp2_with fail
                go_region_held3 (fun w' => w'.cell? (gd.add (k * 3)) = some (.int .i64 y.1) ∧ w'.cell? ⟨(gd.add (k * 3)).block, (gd.add (k * 3)).off + 1, none⟩ = some (.int .i64 y.2.1) ∧ w'.cell? ⟨(gd.add (k * 3)).block, (gd.add (k * 3)).off + 2, none⟩ = some (.string ⟨y.2.2.toArray⟩)
                    ∧ w'.cell? (gd.add ((k + 1) * 3)) = some (.int .i64 z.1) ∧ w'.cell? ⟨(gd.add ((k + 1) * 3)).block, (gd.add ((k + 1) * 3)).off + 1, none⟩ = some (.int .i64 z.2.1) ∧ w'.cell? ⟨(gd.add ((k + 1) * 3)).block, (gd.add ((k + 1) * 3)).off + 2, none⟩ = some (.string ⟨z.2.2.toArray⟩))
                  (first | go_keep | (refine ⟨keep_cell hb ?_, keep_cell hb ?_, keep_cell hb ?_, keep_cell hb ?_, keep_cell hb ?_, keep_cell hb ?_⟩ <;> go_keep))
                  (first | (go_at_call 18; refine (HC _).mono ?_; rintro e w9 ⟨rfl, hb⟩))
                go_wp2
                go_roundw
                case rel => exact ⟨k + 1, ⟨by omega, by go_num⟩, bchain hbj.drew hb⟩
                case measure => simp [intOf]; omega
              · have hmn : (m : Int) ≤ (n : Int) := by omega
                go_wp2_with (go_at_call 7; refine (awake_any _).mono ?_; rintro e wG ⟨rfl, hbG⟩)
                go_ret
                exact ⟨rfl, bchain b0 (bchain hb12 (bchain hbj hbG))⟩
end Go.Proofs.Ytmnjeffpfmfbiaa.O
