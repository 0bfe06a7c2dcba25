/- The walks of the document's Good (of transactions), of the statement's Good, of live's With; what follows of transactions and counts that are good · The chapter's example: Incs by 5 and by -2. -/
import Derived.Test.YtbcmodbnmdmnnaaTxnCompAll
import Derived.Test.YtbcmodbnmdmnnaaTxnCheck2
import Derived.Test.YtbcmodbnmdmnnaaTxnCat
import Derived.Test.YtbcmodbnmdmnnaaTRightsAll
import Derived.Test.YtbcmodbnmdmnnaaAllP
import Derived.Test.YtbcmodbnmdmnnaaOpWrapAll
import Derived.Test.YtbcmodbnmdmnnaaCPartsAll
/- The walks of the document's Good (of transactions), of the statement's Good, of live's With; what follows of transactions and counts that are good. -/
namespace Go.Proofs.Ytbcmodbnmdmnnaa.O
open Go.RowKit

theorem txs_slice {w : World} {v : Value} {ts : List Tx.Txn} (h : txsIn w v ts) : ∃ ao cap, v = .slice ao ts.length cap := by
  obtain ⟨ao, cap, e, _⟩ := h
  exact ⟨ao, cap, e⟩
theorem cnts_slice {w : World} {v : Value} {u : List U} (h : T.cntsIn w v u) : ∃ ao cap, v = .slice ao u.length cap := by
  obtain ⟨ao, cap, e, _⟩ := h
  exact ⟨ao, cap, e⟩
def okT (t : Tx.Txn) : Bool := tshort t && decide (Tx.check t = 0)
def goodT (ts : List Tx.Txn) : Bool := decide (ts.length ≤ 20) && (Tx.rises ts && ts.all okT)
theorem okT_parts {t : Tx.Txn} (h : okT t = true) : tshort t = true ∧ Tx.check t = 0 := by simpa [okT] using h
theorem goodT_parts {ts : List Tx.Txn} (h : goodT ts = true) : ts.length ≤ 20 ∧ Tx.Rises ts ∧ ∀ t ∈ ts, okT t = true := by
  simp only [goodT, Bool.and_eq_true, decide_eq_true_eq, List.all_eq_true] at h
  exact ⟨h.1, Tx.rises_iff.1 h.2.1, h.2.2⟩
/-- An operation of a good transaction names only references that may be. -/
theorem okT_refs {t : Tx.Txn} (h : okT t = true) : ∀ o ∈ t.ops, ∀ x ∈ o.l, Os.ok x = true := fun o ho x hx => by
  have h1 := (Tx.check_zero (okT_parts h).2).2.2.2.2 o ho
  rcases h1 with h1 | ⟨_, h1⟩
  · have := (Os.check_zero h1).2.2.2.2.2.2.2
    exact (Os.ups_iff.1 this).1 x hx
  · rw [Os.gone_is h1] at hx
    simp at hx
theorem goU_ok {x : U} (h : Os.ok x = true) : goU x := by
  have h1 : (Dt.right x.1.1 x.1.2 = true ∧ 0 ≤ x.2) ∧ x.2 ≤ 15 := by simpa [Os.ok] using h
  have h2 := Dt.right_iff.1 h1.1.1
  exact ⟨WalkArith.wf_i64 (by omega), WalkArith.wf_i64 (by omega), WalkArith.wf_i64 (by omega)⟩
theorem okT_few {t : Tx.Txn} (h : okT t = true) : t.ops.length ≤ 1000 ∧ ∀ o ∈ t.ops, o.l.length ≤ 1000 ∧ ∀ x ∈ o.l, goU x := by
  have h1 := tshort_parts (okT_parts h).1
  exact ⟨by omega, fun o ho => ⟨by have := (short_parts (h1.2 o ho)).2.2; omega, fun x hx => goU_ok (okT_refs h o ho x hx)⟩⟩
theorem good_few {ts : List Tx.Txn} (h : ∀ t ∈ ts, okT t = true) : Few13 ts := fun t ht => okT_few (h t ht)
theorem good_dots {ts : List Tx.Txn} (h : ∀ t ∈ ts, okT t = true) : ∀ t ∈ ts, (Lit.int .i64 t.d.1).wf = true ∧ (Lit.int .i64 t.d.2).wf = true := fun t ht => by
  have h2 := Dt.right_iff.1 (Tx.check_zero (okT_parts (h t ht)).2).1
  exact ⟨WalkArith.wf_i64 (by omega), WalkArith.wf_i64 (by omega)⟩
/-- What All tells of good transactions is short. -/
theorem all_short {ts : List Tx.Txn} (h : ∀ t ∈ ts, okT t = true) {sn : D → Bool} {xs : List IE} (he : xs.map (·.1) = Lv.all ts sn) : ShortI xs := fun x hx => by
  have h1 : x.1 ∈ Lv.all ts sn := by rw [← he]; exact List.mem_map.2 ⟨x, hx, rfl⟩
  obtain ⟨t, ht, _, j, hj, _, _, e⟩ := Lv.mem_all.1 h1
  rw [e]
  exact (tshort_parts (okT_parts (h t ht)).1).2 _ (List.getElem_mem hj)
theorem all_len {ts : List Tx.Txn} (hn : ts.length ≤ 1000) (h : ∀ t ∈ ts, okT t = true) {sn : D → Bool} {xs : List IE} (he : xs.map (·.1) = Lv.all ts sn) : xs.length ≤ 1000000 := by
  have h1 := congrArg List.length he
  rw [List.length_map] at h1
  rw [h1]
  exact Nat.le_trans (Lv.allBy_len (B := 1000) fun t ht => (okT_few (h t ht)).1) (Nat.mul_le_mul_right 1000 hn)

set_option maxRecDepth 20000 in
set_option maxHeartbeats 2000000 in
theorem refGood_any (v : Value) (ts : List Tx.Txn) (w : World) (hw : ∀ t ∈ ts, txWide t) (hv : txsIn w v ts) :
    Calls Try.prog 13 #[v, .int .i64 20] w fun e w' => e = .returned (.bool (goodT ts)) ∧ Below w.heap.size w w' := by
  obtain ⟨ao, cap, rfl⟩ := txs_slice hv
  by_cases h20 : ts.length ≤ 20
  · have HR := refTrises_any _ ts w hv (by omega)
    unfold goodT
    rw [decide_eq_true h20, Bool.true_and]
    have HW : Hid (∀ t ∈ ts, txWide t) := hw
    obtain ⟨n, hn0⟩ : ∃ n, n = ts.length := ⟨_, rfl⟩
    have HN : Hid (n = ts.length) := hn0
    rw [← hn0] at hv h20 HR ⊢
    have HV : Hid (txsIn w (.slice ao n cap) ts) := hv
    have h20' : ¬ (20 : Int) < (n : Int) := by omega
    have HZ : Hid (allTo okT ts 0) := by have h := allTo_zero okT ts; exact h
    clear hn0 hv hw
    cases hr : Tx.rises ts with
    | false =>
      rw [hr] at HR
      rw [Bool.false_and]
      go_enter Try.func13, Try.ntmps13
      go_wp2_with (go_at_call 23; refine HR.mono ?_; rintro e w1 ⟨rfl, hb1⟩)
      go_ret
      exact ⟨rfl, hb1⟩
    | true =>
      rw [hr] at HR
      rw [Bool.true_and]
      clear hr
      go_enter Try.func13, Try.ntmps13
      go_wp2_with (go_at_call 23; refine HR.mono ?_; rintro e w1 ⟨rfl, hb1⟩)
      go_loopw [5] (fun i wr => ∃ k : Nat, k ≤ n ∧ i = .int .i64 k ∧ Hid (allTo okT ts k) ∧ Below w.heap.size w wr) (fun i _ => n - (intOf i).toNat)
      case atStart => exact ⟨0, by omega, rfl, HZ, hb1⟩
      case round =>
        clear HZ hb1 HR
        obtain ⟨k, hk, rfl, HS, hbw⟩ := hrel
        by_cases hkn : k < n
        · have hkx : k < ts.length := by rw [← HN.out]; exact hkn
          obtain ⟨ad, ov, rfl, hA, ho⟩ := (HV.out.on hbw).get hkx
          obtain ⟨oo, oc, rfl⟩ := ho.slice
          have HSh := fun W (hb : Below wr.heap.size wr W) => tshort_any ts[k] (.slice oo ts[k].ops.length oc) W (HW.out _ (List.getElem_mem hkx)) (ho.on hb)
          have HCk : tshort ts[k] = true → ∀ W, Below wr.heap.size wr W → Calls Try.prog 25 #[txV ts[k] (.slice oo ts[k].ops.length oc)] W fun e w' => e = .returned (.int .i64 (Tx.check ts[k] : Nat)) ∧ Below W.heap.size W w' := fun q W hb =>
            refTcheck_any ts[k] _ W (tshort_parts q).2 (by have := (tshort_parts q).1; omega) (ho.on hb)
          have HST : Hid (okT ts[k] = true → allTo okT ts (k + 1)) := by have h := allTo_step HS.out hkx; exact h
          have HNO : Hid (okT ts[k] = false → ts.all okT = false) := by have h := all_not (f := okT) hkx; exact h
          clear ho HS
          generalize ts[k] = t at *
          generalize t.ops.length = m at *
          obtain ⟨c0, c1, c2, c3, c4, c5⟩ := id hA
          cases h1 : tshort t with
          | false =>
            have HE : Hid (ts.all okT = false) := by have h := HNO.out (by simp [okT, h1]); exact h
            rw [h1] at HSh
            clear HST HNO HCk hA
            go_wp2_with (go_at_call 24; refine (HSh _ (Below.refl _ _)).mono ?_; rintro e w2 ⟨rfl, hb2⟩)
            go_ret
            exact ⟨ret_bool HE.out.symm, bchain hbw hb2⟩
          | true =>
            rw [h1] at HSh
            have HCk := HCk h1
            by_cases h2 : Tx.check t = 0
            · have HE : Hid (allTo okT ts (k + 1)) := by have h := HST.out (by simp [okT, h1, h2]); exact h
              rw [h2] at HCk
              clear HST HNO
              go_wp2_with (first
                | (go_at_call 24; refine (HSh _ (Below.refl _ _)).mono ?_; rintro e w2 ⟨rfl, hb2⟩; obtain ⟨c0, c1, c2, c3, c4, c5⟩ := hA.on hb2)
                | (go_at_call 25; refine (HCk _ hb2).mono ?_; rintro e w3 ⟨rfl, hb3⟩))
              go_roundw
              case rel => exact ⟨k + 1, by omega, by go_num, HE, bchain hbw (bchain hb2 hb3)⟩
              case measure => simp [intOf]; omega
            · have HE : Hid (ts.all okT = false) := by have h := HNO.out (by simp [okT, h1, h2]); exact h
              have h3 : (((Tx.check t : Nat) : Int) != 0) = true := by simpa using h2
              clear HST HNO h2
              generalize ((Tx.check t : Nat) : Int) = z at *
              go_wp2_with (first
                | (go_at_call 24; refine (HSh _ (Below.refl _ _)).mono ?_; rintro e w2 ⟨rfl, hb2⟩; obtain ⟨c0, c1, c2, c3, c4, c5⟩ := hA.on hb2)
                | (go_at_call 25; refine (HCk _ hb2).mono ?_; rintro e w3 ⟨rfl, hb3⟩))
              go_ret
              exact ⟨ret_bool HE.out.symm, bchain hbw (bchain hb2 hb3)⟩
        · have HE : Hid (ts.all okT = true) := by
            have h := allTo_end HS.out (by rw [← HN.out]; exact hkn)
            exact h
          go_wp2
          go_ret
          exact ⟨ret_bool HE.out.symm, hbw⟩
  · unfold goodT
    rw [decide_eq_false h20, Bool.false_and]
    generalize ts.length = n at *
    have h20' : (20 : Int) < (n : Int) := by omega
    clear hv hw
    go_enter Try.func13, Try.ntmps13
    go_wp2
    go_ret
    exact ⟨rfl, Below.refl _ _⟩

/-- Transactions and counts of which the statements ask. -/
def good13 (ts : List Tx.Txn) (u : List U) : Bool := goodT ts && T.goodU u
set_option maxRecDepth 20000 in
theorem good_any (v vu : Value) (ts : List Tx.Txn) (u : List U) (w : World) (hw : ∀ t ∈ ts, txWide t) (hv : txsIn w v ts) (hu : T.cntsIn w vu u) :
    Calls Try.prog 4 #[v, vu] w fun e w' => e = .returned (.bool (good13 ts u)) ∧ Below w.heap.size w w' := by
  have HG := refGood_any v ts w hw hv
  have HU := fun W (hb : Below w.heap.size w W) => T.good_any vu u W (hu.on hb)
  obtain ⟨ao, cap, rfl⟩ := txs_slice hv
  obtain ⟨uo, uc, rfl⟩ := cnts_slice hu
  clear hu hv hw
  unfold good13
  generalize ts.length = n at *
  generalize u.length = m at *
  cases h : goodT ts with
  | false =>
    rw [h] at HG
    rw [Bool.false_and]
    go_enter Try.func4, Try.ntmps4
    go_wp2_with (go_at_call 13; refine HG.mono ?_; rintro e w1 ⟨rfl, hb1⟩)
    go_ret
    exact ⟨rfl, hb1⟩
  | true =>
    rw [h] at HG
    rw [Bool.true_and]
    generalize T.goodU u = q at *
    go_enter Try.func4, Try.ntmps4
    go_wp2_with (first
      | (go_at_call 13; refine HG.mono ?_; rintro e w1 ⟨rfl, hb1⟩)
      | (go_at_call 14; refine (HU _ hb1).mono ?_; rintro e w2 ⟨rfl, hb2⟩))
    go_ret
    exact ⟨rfl, bchain hb1 hb2⟩
theorem good13_parts {ts : List Tx.Txn} {u : List U} (h : good13 ts u = true) : (ts.length ≤ 20 ∧ Tx.Rises ts ∧ ∀ t ∈ ts, okT t = true) ∧ u.length ≤ 100 ∧ Ct.Std u := by
  have h1 : goodT ts = true ∧ T.goodU u = true := by simpa [good13] using h
  have h2 : u.length ≤ 100 ∧ Ct.right u = true := by simpa [T.goodU] using h1.2
  exact ⟨goodT_parts h1.1, h2.1, Ct.right_iff.1 h2.2⟩
end Go.Proofs.Ytbcmodbnmdmnnaa.O
/- The chapter's example: Incs by 5 and by -2. -/
namespace Go.Proofs.Ytbcmodbnmdmnnaa.O
open Go.RowKit

theorem strs_one (w : World) (a : List UInt8) : U.strsAt (w.alloc (.cells #[.string ⟨a.toArray⟩] 9)) (.slice (some ⟨w.heap.size, 0, none⟩) 1 1) [a] := by
  refine ⟨_, 1, rfl, Nat.le_refl _, fun k hk => ⟨_, rfl, ?_⟩⟩
  match k, hk with
  | 0, _ => simp [Addr.add]
  | k + 1, h => simp at h
theorem ops_one (w : World) (o : Os.Op) (pv sv : Value) (hp : U.strsAt (w.alloc (oO o pv sv)) pv o.p) (hs : refsIn (w.alloc (oO o pv sv)) sv o.l) : opsIn (w.alloc (oO o pv sv)) (.slice (some ⟨w.heap.size, 0, none⟩) 1 1) [o] := by
  refine ⟨_, 1, rfl, Nat.le_refl _, fun e => by simp at e, fun k hk => ?_⟩
  match k, hk with
  | 0, _ => exact ⟨_, pv, sv, rfl, ⟨by simp [Addr.add], by simp [Addr.add], by simp [Addr.add], by simp [Addr.add], by simp [Addr.add], by simp [Addr.add], by simp [Addr.add]⟩, hp, hs⟩
  | k + 1, h => simp at h
theorem txs_two (w : World) (a b : Tx.Txn) (ova ovb : Value) (ha : opsIn w ova a.ops) (hb : opsIn w ovb b.ops) :
    txsIn (w.alloc (.cells #[.int .i64 a.d.1, .int .i64 a.d.2, .int .i64 a.u, .int .i64 a.t, .bool a.thin, ova, .int .i64 b.d.1, .int .i64 b.d.2, .int .i64 b.u, .int .i64 b.t, .bool b.thin, ovb] 44)) (.slice (some ⟨w.heap.size, 0, none⟩) 2 2) [a, b] := by
  have k0 := below_new w (.cells #[.int .i64 a.d.1, .int .i64 a.d.2, .int .i64 a.u, .int .i64 a.t, .bool a.thin, ova, .int .i64 b.d.1, .int .i64 b.d.2, .int .i64 b.u, .int .i64 b.t, .bool b.thin, ovb] 44)
  refine ⟨_, 2, rfl, Nat.le_refl _, fun e => by simp at e, fun k hk => ?_⟩
  match k, hk with
  | 0, _ => exact ⟨_, ova, rfl, ⟨by simp [Addr.add], by simp [Addr.add], by simp [Addr.add], by simp [Addr.add], by simp [Addr.add], by simp [Addr.add]⟩, ha.on k0⟩
  | 1, _ => exact ⟨_, ovb, rfl, ⟨by simp [Addr.add], by simp [Addr.add], by simp [Addr.add], by simp [Addr.add], by simp [Addr.add], by simp [Addr.add]⟩, hb.on k0⟩
  | k + 2, h => exact absurd h (by simp)
/-- A transaction that counts by n at the path [97]. -/
abbrev incO (n : Int) : Os.Op := ⟨3, [[97]], 0, 0, [], n, []⟩
abbrev incT (d : D) (n : Int) : Tx.Txn := ⟨d, 0, 1, false, [incO n]⟩
set_option maxRecDepth 20000 in
set_option maxHeartbeats 2000000 in
theorem inc_any (d : D) (n : Int) (pa : Option Addr) (pn pc : Nat) (w : World) (hp : U.strsAt w (.slice pa pn pc) [[97]]) :
    Calls Try.prog 15 #[dV d, .slice pa pn pc, .int .i64 n] w fun e w' => ∃ ao c, e = .returned (txV (incT d n) (.slice ao 1 c)) ∧ opsIn w' (.slice ao 1 c) [incO n] ∧ Below w.heap.size w w' := by
  obtain ⟨W1, hW1⟩ : ∃ W1, W1 = (w.alloc (.cells #[.int .i64 d.1, .int .i64 d.2] 41)).alloc (txO (incT d n) (.slice (some ⟨w.heap.size + 1 + 1, 0, none⟩) 1 1)) := ⟨_, rfl⟩
  have k1 : Below w.heap.size w W1 := by rw [hW1]; exact below_new2 _ _ _
  have e1 : W1.heap.size = w.heap.size + 1 + 1 := by rw [hW1]; simp
  have hX := below_new W1 (oO (incO n) (.slice pa pn pc) (.slice none 0 0))
  have ho := ops_one W1 (incO n) (.slice pa pn pc) (.slice none 0 0) (U.strsAt_below hp (bchain k1 hX) (Nat.le_refl _)) (refsIn_nil _)
  rw [e1] at ho
  have hB := bchain k1 hX
  rw [hW1] at ho hB
  clear hX e1 k1 hW1 hp
  go_enter Try.func15, Try.ntmps15
  go_wp2
  refine bodyPost_ret (v := txV (incT d n) (.slice (some ⟨w.heap.size + 1 + 1, 0, none⟩) 1 1)) (by simp [results, Try.results15, go_sem]) rfl ⟨_, _, rfl, ho, hB⟩
abbrev exTs : List Tx.Txn := [incT (0, 1) 5, incT (1, 1) (-2)]
abbrev exIts : List Lv.Item := [⟨((0, 1), 0), incO 5, 1⟩, ⟨((1, 1), 0), incO (-2), 1⟩]
theorem ex_all : Lv.all exTs (seenD []) = exIts := by rfl
theorem ex_few : Few13 exTs := fun t ht => by
  simp only [exTs, List.mem_cons, List.not_mem_nil, or_false] at ht
  rcases ht with rfl | rfl <;> exact ⟨by decide, fun o ho => by rw [List.mem_singleton.1 ho]; exact ⟨by decide, fun x hx => by simp at hx⟩⟩
theorem ex_dots : ∀ t ∈ exTs, (Lit.int .i64 t.d.1).wf = true ∧ (Lit.int .i64 t.d.2).wf = true := fun t ht => by
  simp only [exTs, List.mem_cons, List.not_mem_nil, or_false] at ht
  rcases ht with rfl | rfl <;> exact ⟨by decide, by decide⟩
theorem ex_mem {xs : List IE} (h : xs.map (·.1) = exIts) {x : IE} (hx : x ∈ xs) : x.1 = ⟨((0, 1), 0), incO 5, 1⟩ ∨ x.1 = ⟨((1, 1), 0), incO (-2), 1⟩ := by
  have hm : x.1 ∈ exIts := by rw [← h]; exact List.mem_map.2 ⟨x, hx, rfl⟩
  simpa [exIts] using hm
theorem ex_short {xs : List IE} (h : xs.map (·.1) = exIts) : ShortI xs := fun x hx => by
  rcases ex_mem h hx with e | e <;> (rw [e]; decide +kernel)
theorem ex_small {xs : List IE} (h : xs.map (·.1) = exIts) : SmallN xs := fun x hx => by
  rcases ex_mem h hx with e | e <;> (rw [e]; exact ⟨by decide, by decide⟩)
theorem ex_len {xs : List IE} (h : xs.map (·.1) = exIts) : xs.length ≤ 1000000 := by
  have h1 := congrArg List.length h
  rw [List.length_map] at h1
  rw [h1]
  decide
theorem ex_sum : upI exIts [[97]] - dnI exIts [[97]] = 3 := by decide +kernel
theorem ex_count : cnI exIts [[97]] = 2 := by decide +kernel
/-- What the example's items tell, whatever was laid since. -/
def ExC (w : World) (r vp : Value) : Prop := ∀ W, Below w.heap.size w W → (Calls Try.prog 11 #[r, vp] W fun e w' => e = .returned (.int .i64 3) ∧ Below W.heap.size W w') ∧ Calls Try.prog 12 #[r, vp] W fun e w' => e = .returned (.int .i64 2) ∧ Below W.heap.size W w'

set_option maxRecDepth 20000 in
set_option maxHeartbeats 4000000 in
theorem awake_any (w : World) : Calls Try.prog 6 #[] w fun e w' => e = .returned (.bool true) ∧ Below w.heap.size w w' := by
  obtain ⟨W0, hW0⟩ : ∃ W0, W0 = w.alloc (.cells #[.string ⟨#[97]⟩] 9) := ⟨_, rfl⟩
  have B0 : Below w.heap.size w W0 := by rw [hW0]; exact below_new _ _
  have P0 : U.strsAt W0 (.slice (some ⟨w.heap.size, 0, none⟩) 1 1) [[97]] := by rw [hW0]; exact strs_one w [97]
  have HA : ∀ v W, Below W0.heap.size W0 W → txsIn W v exTs → Calls Try.prog 7 #[v, .slice none 0 0] W fun e w' => ∃ r, e = .returned r ∧ Hid (ExC w' r (.slice (some ⟨w.heap.size, 0, none⟩) 1 1)) ∧ Below W.heap.size W w' := fun v W hb hv =>
    (all_any v (.slice none 0 0) exTs [] W hv (T.cntsIn_nil W) (by decide) ex_few ex_dots (by simp) Ct.std_nil).mono fun e w' ⟨r, xs, e1, h1, h2, h3⟩ => by
      rw [ex_all] at h2
      refine ⟨r, e1, ?_, h3⟩
      have h : ExC w' r (.slice (some ⟨w.heap.size, 0, none⟩) 1 1) := fun W2 hb2 => by
        have hp2 := U.strsAt_below P0 (bchain hb (bchain h3 hb2)) (Nat.le_refl _)
        have a1 := sum_its (h1.on hb2) h2 hp2 (ex_len h2) (ex_short h2) (ex_small h2)
        have a2 := count_its (h1.on hb2) h2 hp2 (ex_len h2) (ex_short h2)
        rw [ex_sum] at a1
        rw [ex_count] at a2
        exact ⟨a1, a2⟩
      exact h
  go_enter Try.func6, Try.ntmps6
  go_wp2_with (first
    | (go_at_call 11; refine (H3.out _ (Below.refl _ _)).1.mono ?_; rintro e w4 ⟨rfl, hb4⟩)
    | (go_at_call 12; refine (H3.out _ hb4).2.mono ?_; rintro e w5 ⟨rfl, hb5⟩)
    | (go_at_call 7; refine (HA _ _ (bchain hb1 (bchain hb2 (below_new w2 _))) hts).mono ?_; rintro e w3 ⟨r, rfl, H3, hb3⟩)
    | (go_at_call 15; refine (inc_any (1, 1) (-2) _ _ _ w1 (U.strsAt_below P0 hb1 (Nat.le_refl _))).mono ?_; rintro e w2 ⟨ao2, cp2, rfl, ho2, hb2⟩; have hts := txs_two w2 (incT (0, 1) 5) (incT (1, 1) (-2)) _ _ (ho1.on hb2) ho2)
    | (go_at_call 15; rw [← hW0]; refine (inc_any (0, 1) 5 _ _ _ _ P0).mono ?_; rintro e w1 ⟨ao1, cp1, rfl, ho1, hb1⟩))
  go_ret
  exact ⟨rfl, bchain B0 (bchain hb1 (bchain hb2 (bchain (below_new _ _) (bchain hb3 (bchain hb4 hb5)))))⟩
end Go.Proofs.Ytbcmodbnmdmnnaa.O
