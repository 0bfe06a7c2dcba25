/- The walks of the document's Good (of transactions), of the statement's Good, of live's With; what follows of transactions and counts that are good · The walks of the statements' num and put: one value, one transaction that puts it · The walk of the document's Same over lists of values. -/
import Derived.Test.YtmnjeffpfmfbiaaTxnCompAll
import Derived.Test.YtmnjeffpfmfbiaaTxnCheck2
import Derived.Test.YtmnjeffpfmfbiaaTxnCat
import Derived.Test.YtmnjeffpfmfbiaaTRightsAll
import Derived.Test.YtmnjeffpfmfbiaaAllP
import Derived.Test.YtmnjeffpfmfbiaaOpWrapAll
import Derived.Test.YtmnjeffpfmfbiaaRegsAll
import Derived.Test.YtmnjeffpfmfbiaaVCompact
/- The walks of the document's Good (of transactions), of the statement's Good, of live's With; what follows of transactions and counts that are good. -/
namespace Go.Proofs.Ytmnjeffpfmfbiaa.O
open Go.RowKit

theorem txs_slice {w : World} {v : Value} {ts : List Tx.Txn} (h : txsIn w v ts) : ∃ ao cap, v = .slice ao ts.length cap := by
  obtain ⟨ao, cap, e, _⟩ := h
  exact ⟨ao, cap, e⟩
theorem cnts_slice {w : World} {v : Value} {u : List U} (h : T.cntsIn w v u) : ∃ ao cap, v = .slice ao u.length cap := by
  obtain ⟨ao, cap, e, _⟩ := h
  exact ⟨ao, cap, e⟩
def okT (t : Tx.Txn) : Bool := tshort t && decide (Tx.check t = 0)
def goodT (ts : List Tx.Txn) : Bool := decide (ts.length ≤ 20) && (Tx.rises ts && ts.all okT)
theorem okT_parts {t : Tx.Txn} (h : okT t = true) : tshort t = true ∧ Tx.check t = 0 := by simpa [okT] using h
theorem goodT_parts {ts : List Tx.Txn} (h : goodT ts = true) : ts.length ≤ 20 ∧ Tx.Rises ts ∧ ∀ t ∈ ts, okT t = true := by
  simp only [goodT, Bool.and_eq_true, decide_eq_true_eq, List.all_eq_true] at h
  exact ⟨h.1, Tx.rises_iff.1 h.2.1, h.2.2⟩
/-- An operation of a good transaction names only references that may be. -/
theorem okT_refs {t : Tx.Txn} (h : okT t = true) : ∀ o ∈ t.ops, ∀ x ∈ o.l, Os.ok x = true := fun o ho x hx => by
  have h1 := (Tx.check_zero (okT_parts h).2).2.2.2.2 o ho
  rcases h1 with h1 | ⟨_, h1⟩
  · have := (Os.check_zero h1).2.2.2.2.2.2.2
    exact (Os.ups_iff.1 this).1 x hx
  · rw [Os.gone_is h1] at hx
    simp at hx
theorem goU_ok {x : U} (h : Os.ok x = true) : goU x := by
  have h1 : (Dt.right x.1.1 x.1.2 = true ∧ 0 ≤ x.2) ∧ x.2 ≤ 15 := by simpa [Os.ok] using h
  have h2 := Dt.right_iff.1 h1.1.1
  exact ⟨WalkArith.wf_i64 (by omega), WalkArith.wf_i64 (by omega), WalkArith.wf_i64 (by omega)⟩
theorem okT_few {t : Tx.Txn} (h : okT t = true) : t.ops.length ≤ 1000 ∧ ∀ o ∈ t.ops, o.l.length ≤ 1000 ∧ ∀ x ∈ o.l, goU x := by
  have h1 := tshort_parts (okT_parts h).1
  exact ⟨by omega, fun o ho => ⟨by have := (short_parts (h1.2 o ho)).2.2; omega, fun x hx => goU_ok (okT_refs h o ho x hx)⟩⟩
theorem good_few {ts : List Tx.Txn} (h : ∀ t ∈ ts, okT t = true) : Few13 ts := fun t ht => okT_few (h t ht)
theorem good_dots {ts : List Tx.Txn} (h : ∀ t ∈ ts, okT t = true) : ∀ t ∈ ts, (Lit.int .i64 t.d.1).wf = true ∧ (Lit.int .i64 t.d.2).wf = true := fun t ht => by
  have h2 := Dt.right_iff.1 (Tx.check_zero (okT_parts (h t ht)).2).1
  exact ⟨WalkArith.wf_i64 (by omega), WalkArith.wf_i64 (by omega)⟩
/-- What All tells of good transactions is short. -/
theorem all_short {ts : List Tx.Txn} (h : ∀ t ∈ ts, okT t = true) {sn : D → Bool} {xs : List IE} (he : xs.map (·.1) = Lv.all ts sn) : ShortI xs := fun x hx => by
  have h1 : x.1 ∈ Lv.all ts sn := by rw [← he]; exact List.mem_map.2 ⟨x, hx, rfl⟩
  obtain ⟨t, ht, _, j, hj, _, _, e⟩ := Lv.mem_all.1 h1
  rw [e]
  exact (tshort_parts (okT_parts (h t ht)).1).2 _ (List.getElem_mem hj)
theorem all_len {ts : List Tx.Txn} (hn : ts.length ≤ 1000) (h : ∀ t ∈ ts, okT t = true) {sn : D → Bool} {xs : List IE} (he : xs.map (·.1) = Lv.all ts sn) : xs.length ≤ 1000000 := by
  have h1 := congrArg List.length he
  rw [List.length_map] at h1
  rw [h1]
  exact Nat.le_trans (Lv.allBy_len (B := 1000) fun t ht => (okT_few (h t ht)).1) (Nat.mul_le_mul_right 1000 hn)

set_option maxRecDepth 20000 in
set_option maxHeartbeats 2000000 in
theorem refGood_any (v : Value) (ts : List Tx.Txn) (w : World) (hw : ∀ t ∈ ts, txWide t) (hv : txsIn w v ts) :
    Calls Try.prog 19 #[v, .int .i64 20] w fun e w' => e = .returned (.bool (goodT ts)) ∧ Below w.heap.size w w' := by
  obtain ⟨ao, cap, rfl⟩ := txs_slice hv
  by_cases h20 : ts.length ≤ 20
  · have HR := refTrises_any _ ts w hv (by omega)
    unfold goodT
    rw [decide_eq_true h20, Bool.true_and]
    have HW : Hid (∀ t ∈ ts, txWide t) := hw
    obtain ⟨n, hn0⟩ : ∃ n, n = ts.length := ⟨_, rfl⟩
    have HN : Hid (n = ts.length) := hn0
    rw [← hn0] at hv h20 HR ⊢
    have HV : Hid (txsIn w (.slice ao n cap) ts) := hv
    have h20' : ¬ (20 : Int) < (n : Int) := by omega
    have HZ : Hid (allTo okT ts 0) := by have h := allTo_zero okT ts; exact h
    clear hn0 hv hw
    cases hr : Tx.rises ts with
    | false =>
      rw [hr] at HR
      rw [Bool.false_and]
      go_enter Try.func19, Try.ntmps19
      go_wp2_with (go_at_call 42; refine HR.mono ?_; rintro e w1 ⟨rfl, hb1⟩)
      go_ret
      exact ⟨rfl, hb1⟩
    | true =>
      rw [hr] at HR
      rw [Bool.true_and]
      clear hr
      go_enter Try.func19, Try.ntmps19
      go_wp2_with (go_at_call 42; refine HR.mono ?_; rintro e w1 ⟨rfl, hb1⟩)
      go_loopw [5] (fun i wr => ∃ k : Nat, k ≤ n ∧ i = .int .i64 k ∧ Hid (allTo okT ts k) ∧ Below w.heap.size w wr) (fun i _ => n - (intOf i).toNat)
      case atStart => exact ⟨0, by omega, rfl, HZ, hb1⟩
      case round =>
        clear HZ hb1 HR
        obtain ⟨k, hk, rfl, HS, hbw⟩ := hrel
        by_cases hkn : k < n
        · have hkx : k < ts.length := by rw [← HN.out]; exact hkn
          obtain ⟨ad, ov, rfl, hA, ho⟩ := (HV.out.on hbw).get hkx
          obtain ⟨oo, oc, rfl⟩ := ho.slice
          have HSh := fun W (hb : Below wr.heap.size wr W) => tshort_any ts[k] (.slice oo ts[k].ops.length oc) W (HW.out _ (List.getElem_mem hkx)) (ho.on hb)
          have HCk : tshort ts[k] = true → ∀ W, Below wr.heap.size wr W → Calls Try.prog 44 #[txV ts[k] (.slice oo ts[k].ops.length oc)] W fun e w' => e = .returned (.int .i64 (Tx.check ts[k] : Nat)) ∧ Below W.heap.size W w' := fun q W hb =>
            refTcheck_any ts[k] _ W (tshort_parts q).2 (by have := (tshort_parts q).1; omega) (ho.on hb)
          have HST : Hid (okT ts[k] = true → allTo okT ts (k + 1)) := by have h := allTo_step HS.out hkx; exact h
          have HNO : Hid (okT ts[k] = false → ts.all okT = false) := by have h := all_not (f := okT) hkx; exact h
          clear ho HS
          generalize ts[k] = t at *
          generalize t.ops.length = m at *
          obtain ⟨c0, c1, c2, c3, c4, c5⟩ := id hA
          cases h1 : tshort t with
          | false =>
            have HE : Hid (ts.all okT = false) := by have h := HNO.out (by simp [okT, h1]); exact h
            rw [h1] at HSh
            clear HST HNO HCk hA
            go_wp2_with (go_at_call 43; refine (HSh _ (Below.refl _ _)).mono ?_; rintro e w2 ⟨rfl, hb2⟩)
            go_ret
            exact ⟨ret_bool HE.out.symm, bchain hbw hb2⟩
          | true =>
            rw [h1] at HSh
            have HCk := HCk h1
            by_cases h2 : Tx.check t = 0
            · have HE : Hid (allTo okT ts (k + 1)) := by have h := HST.out (by simp [okT, h1, h2]); exact h
              rw [h2] at HCk
              clear HST HNO
              go_wp2_with (first
                | (go_at_call 43; refine (HSh _ (Below.refl _ _)).mono ?_; rintro e w2 ⟨rfl, hb2⟩; obtain ⟨c0, c1, c2, c3, c4, c5⟩ := hA.on hb2)
                | (go_at_call 44; refine (HCk _ hb2).mono ?_; rintro e w3 ⟨rfl, hb3⟩))
              go_roundw
              case rel => exact ⟨k + 1, by omega, by go_num, HE, bchain hbw (bchain hb2 hb3)⟩
              case measure => simp [intOf]; omega
            · have HE : Hid (ts.all okT = false) := by have h := HNO.out (by simp [okT, h1, h2]); exact h
              have h3 : (((Tx.check t : Nat) : Int) != 0) = true := by simpa using h2
              clear HST HNO h2
              generalize ((Tx.check t : Nat) : Int) = z at *
              go_wp2_with (first
                | (go_at_call 43; refine (HSh _ (Below.refl _ _)).mono ?_; rintro e w2 ⟨rfl, hb2⟩; obtain ⟨c0, c1, c2, c3, c4, c5⟩ := hA.on hb2)
                | (go_at_call 44; refine (HCk _ hb2).mono ?_; rintro e w3 ⟨rfl, hb3⟩))
              go_ret
              exact ⟨ret_bool HE.out.symm, bchain hbw (bchain hb2 hb3)⟩
        · have HE : Hid (ts.all okT = true) := by
            have h := allTo_end HS.out (by rw [← HN.out]; exact hkn)
            exact h
          go_wp2
          go_ret
          exact ⟨ret_bool HE.out.symm, hbw⟩
  · unfold goodT
    rw [decide_eq_false h20, Bool.false_and]
    generalize ts.length = n at *
    have h20' : (20 : Int) < (n : Int) := by omega
    clear hv hw
    go_enter Try.func19, Try.ntmps19
    go_wp2
    go_ret
    exact ⟨rfl, Below.refl _ _⟩

/-- Transactions and counts of which the statements ask. -/
def good13 (ts : List Tx.Txn) (u : List U) : Bool := goodT ts && T.goodU u
set_option maxRecDepth 20000 in
theorem good_any (v vu : Value) (ts : List Tx.Txn) (u : List U) (w : World) (hw : ∀ t ∈ ts, txWide t) (hv : txsIn w v ts) (hu : T.cntsIn w vu u) :
    Calls Try.prog 5 #[v, vu] w fun e w' => e = .returned (.bool (good13 ts u)) ∧ Below w.heap.size w w' := by
  have HG := refGood_any v ts w hw hv
  have HU := fun W (hb : Below w.heap.size w W) => T.good_any vu u W (hu.on hb)
  obtain ⟨ao, cap, rfl⟩ := txs_slice hv
  obtain ⟨uo, uc, rfl⟩ := cnts_slice hu
  clear hu hv hw
  unfold good13
  generalize ts.length = n at *
  generalize u.length = m at *
  cases h : goodT ts with
  | false =>
    rw [h] at HG
    rw [Bool.false_and]
    go_enter Try.func5, Try.ntmps5
    go_wp2_with (go_at_call 19; refine HG.mono ?_; rintro e w1 ⟨rfl, hb1⟩)
    go_ret
    exact ⟨rfl, hb1⟩
  | true =>
    rw [h] at HG
    rw [Bool.true_and]
    generalize T.goodU u = q at *
    go_enter Try.func5, Try.ntmps5
    go_wp2_with (first
      | (go_at_call 19; refine HG.mono ?_; rintro e w1 ⟨rfl, hb1⟩)
      | (go_at_call 20; refine (HU _ hb1).mono ?_; rintro e w2 ⟨rfl, hb2⟩))
    go_ret
    exact ⟨rfl, bchain hb1 hb2⟩
theorem good13_parts {ts : List Tx.Txn} {u : List U} (h : good13 ts u = true) : (ts.length ≤ 20 ∧ Tx.Rises ts ∧ ∀ t ∈ ts, okT t = true) ∧ u.length ≤ 100 ∧ Ct.Std u := by
  have h1 : goodT ts = true ∧ T.goodU u = true := by simpa [good13] using h
  have h2 : u.length ≤ 100 ∧ Ct.right u = true := by simpa [T.goodU] using h1.2
  exact ⟨goodT_parts h1.1, h2.1, Ct.right_iff.1 h2.2⟩
end Go.Proofs.Ytmnjeffpfmfbiaa.O
/- The walks of the statements' num and put: one value, one transaction that puts it. -/
namespace Go.Proofs.Ytmnjeffpfmfbiaa.O
open Go.RowKit

set_option maxRecDepth 20000 in
theorem num_any (z : Int) (w : World) : Calls Try.prog 21 #[.int .i64 z] w fun e w' => e = .returned (.agg #[.int .i64 1, .int .i64 z, .string ⟨#[]⟩]) ∧ Below w.heap.size w w' := by
  go_enter Try.func21, Try.ntmps21
  go_wp2
  refine bodyPost_ret (v := .agg #[.int .i64 1, .int .i64 z, .string ⟨#[]⟩]) (by simp [results, Try.results21, go_sem]) rfl ⟨rfl, below_new _ _⟩
abbrev gO (p : List (List UInt8)) (x : Rg.Va) (l : List U) : Os.Op := ⟨1, p, x.1, x.2.1, x.2.2, 0, l⟩
abbrev gT (d : D) (t : Int) (p : List (List UInt8)) (x : Rg.Va) (l : List U) : Tx.Txn := ⟨d, 0, t, false, [gO p x l]⟩
theorem strs_one (w : World) (a : List UInt8) : U.strsAt (w.alloc (.cells #[.string ⟨a.toArray⟩] 9)) (.slice (some ⟨w.heap.size, 0, none⟩) 1 1) [a] := by
  refine ⟨_, 1, rfl, Nat.le_refl _, fun k hk => ⟨_, rfl, ?_⟩⟩
  match k, hk with
  | 0, _ => simp [Addr.add]
  | k + 1, h => simp at h
theorem ops_one (w : World) (o : Os.Op) (pv sv : Value) (hp : U.strsAt (w.alloc (oO o pv sv)) pv o.p) (hs : refsIn (w.alloc (oO o pv sv)) sv o.l) : opsIn (w.alloc (oO o pv sv)) (.slice (some ⟨w.heap.size, 0, none⟩) 1 1) [o] := by
  refine ⟨_, 1, rfl, Nat.le_refl _, fun e => by simp at e, fun k hk => ?_⟩
  match k, hk with
  | 0, _ => exact ⟨_, pv, sv, rfl, ⟨by simp [Addr.add], by simp [Addr.add], by simp [Addr.add], by simp [Addr.add], by simp [Addr.add], by simp [Addr.add], by simp [Addr.add]⟩, hp, hs⟩
  | k + 1, h => simp at h
theorem txs_two (w : World) (a b : Tx.Txn) (ova ovb : Value) (ha : opsIn w ova a.ops) (hb : opsIn w ovb b.ops) :
    txsIn (w.alloc (.cells #[.int .i64 a.d.1, .int .i64 a.d.2, .int .i64 a.u, .int .i64 a.t, .bool a.thin, ova, .int .i64 b.d.1, .int .i64 b.d.2, .int .i64 b.u, .int .i64 b.t, .bool b.thin, ovb] 48)) (.slice (some ⟨w.heap.size, 0, none⟩) 2 2) [a, b] := by
  have k0 := below_new w (.cells #[.int .i64 a.d.1, .int .i64 a.d.2, .int .i64 a.u, .int .i64 a.t, .bool a.thin, ova, .int .i64 b.d.1, .int .i64 b.d.2, .int .i64 b.u, .int .i64 b.t, .bool b.thin, ovb] 48)
  refine ⟨_, 2, rfl, Nat.le_refl _, fun e => by simp at e, fun k hk => ?_⟩
  match k, hk with
  | 0, _ => exact ⟨_, ova, rfl, ⟨by simp [Addr.add], by simp [Addr.add], by simp [Addr.add], by simp [Addr.add], by simp [Addr.add], by simp [Addr.add]⟩, ha.on k0⟩
  | 1, _ => exact ⟨_, ovb, rfl, ⟨by simp [Addr.add], by simp [Addr.add], by simp [Addr.add], by simp [Addr.add], by simp [Addr.add], by simp [Addr.add]⟩, hb.on k0⟩
  | k + 2, h => exact absurd h (by simp)
set_option maxRecDepth 20000 in
set_option maxHeartbeats 2000000 in
theorem put14_any (d : D) (t : Int) (pa : Option Addr) (pn pc : Nat) (p : List (List UInt8)) (x : Rg.Va) (sa : Option Addr) (sn sc : Nat) (l : List U) (w : World) (hp : U.strsAt w (.slice pa pn pc) p) (hs : refsIn w (.slice sa sn sc) l) :
    Calls Try.prog 17 #[dV d, .int .i64 t, .slice pa pn pc, vV x, .slice sa sn sc] w fun e w' => ∃ ao c, e = .returned (txV (gT d t p x l) (.slice ao 1 c)) ∧ opsIn w' (.slice ao 1 c) [gO p x l] ∧ Below w.heap.size w w' := by
  obtain ⟨W1, hW1⟩ : ∃ W1, W1 = (w.alloc (.cells #[.int .i64 d.1, .int .i64 d.2] 45)).alloc (vO x) := ⟨_, rfl⟩
  have k1 : Below w.heap.size w W1 := by rw [hW1]; exact below_new2 _ _ _
  have e1 : W1.heap.size = w.heap.size + 1 + 1 := by rw [hW1]; simp
  obtain ⟨W2, hW2⟩ : ∃ W2, W2 = W1.alloc (txO (gT d t p x l) (.slice (some ⟨w.heap.size + 1 + 1 + 1, 0, none⟩) 1 1)) := ⟨_, rfl⟩
  have k2 : Below w.heap.size w W2 := by rw [hW2]; exact bchain k1 (below_new _ _)
  have e2 : W2.heap.size = w.heap.size + 1 + 1 + 1 := by rw [hW2]; simp [e1]
  have hX := below_new W2 (oO (gO p x l) (.slice pa pn pc) (.slice sa sn sc))
  have ho := ops_one W2 (gO p x l) (.slice pa pn pc) (.slice sa sn sc) (U.strsAt_below hp (bchain k2 hX) (Nat.le_refl _)) (hs.on (bchain k2 hX))
  rw [e2] at ho
  have hB := bchain k2 hX
  rw [hW2, hW1] at ho hB
  clear hX e2 e1 k1 k2 hW1 hW2 hs hp
  go_enter Try.func17, Try.ntmps17
  go_wp2
  refine bodyPost_ret (v := txV (gT d t p x l) (.slice (some ⟨w.heap.size + 1 + 1 + 1, 0, none⟩) 1 1)) (by simp [results, Try.results17, go_sem]) rfl ⟨_, _, rfl, ho, hB⟩
end Go.Proofs.Ytmnjeffpfmfbiaa.O
/- The walk of the document's Same over lists of values. -/
namespace Go.Proofs.Ytmnjeffpfmfbiaa.O
open Go.RowKit

set_option maxRecDepth 20000 in
set_option maxHeartbeats 2000000 in
theorem sameV_any (va vb : Value) (l : List Rg.Va) (w : World) (ha : valsIn w va l) (hb : valsIn w vb l) (hn : l.length ≤ 1000000) :
    Calls Try.prog 13 #[va, vb] w fun e w' => e = .returned (.bool true) ∧ Below w.heap.size w w' := by
  obtain ⟨ao, cx, rfl, _, _, _⟩ := id ha
  obtain ⟨bo, cy, rfl, _, _, _⟩ := id hb
  obtain ⟨n, hn0⟩ : ∃ n, n = l.length := ⟨_, rfl⟩
  have HN : Hid (n = l.length) := hn0
  rw [← hn0] at ha hb hn ⊢
  have HA : Hid (valsIn w (.slice ao n cx) l) := ha
  have HB : Hid (valsIn w (.slice bo n cy) l) := hb
  clear hn0 ha hb
  go_enter Try.func13, Try.ntmps13
  go_wp2
  go_loopw [5] (fun i wr => ∃ k : Nat, k ≤ n ∧ i = .int .i64 k ∧ Below w.heap.size w wr) (fun i _ => n - (intOf i).toNat)
  case atStart => exact ⟨0, by omega, rfl, Below.refl _ _⟩
  case round =>
    obtain ⟨k, hk, rfl, hbw⟩ := hrel
    by_cases hkn : k < n
    · have hkx : k < l.length := by rw [← HN.out]; exact hkn
      obtain ⟨ax, rfl, hX⟩ := HA.out.get hkx
      obtain ⟨ay, rfl, hY⟩ := HB.out.get hkx
      obtain ⟨a0, a1, a2⟩ := hX.on hbw
      obtain ⟨b0, b1, b2⟩ := hY.on hbw
      have hE := neq_va l[k] l[k]
      simp only [decide_true, Bool.not_true] at hE
      have hi0 : (0 : Int) ≤ (k : Int) := by omega
      have hi1 : (k : Int) < (n : Int) := by omega
      clear hX hY
      generalize l[k] = x at *
      go_wp2
      go_region
      all_goals
        go_wp2
        go_roundw
        case rel => exact ⟨k + 1, by omega, by go_num, hbw.drew⟩
        case measure => simp [intOf]; omega
    · go_wp2
      go_ret
      exact ⟨rfl, hbw⟩
end Go.Proofs.Ytmnjeffpfmfbiaa.O
