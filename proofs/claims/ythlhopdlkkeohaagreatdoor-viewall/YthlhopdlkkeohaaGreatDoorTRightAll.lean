/- The walk of the program's Right, and of the document's Good · The walks of the document's Good (of transactions), of the statement's Good, of live's With; what follows of transactions and counts that are good · What Keys, Leaves, Deep and the example tell, by the items alone; All at any world behind the first. -/
import Derived.Test.YthlhopdlkkeohaaGreatDoorTRefRight
import Derived.Test.YthlhopdlkkeohaaGreatDoorTxnRisesAll
import Derived.Test.YthlhopdlkkeohaaGreatDoorTxnOwnAll
import Derived.Test.YthlhopdlkkeohaaGreatDoorAllP
import Derived.Test.YthlhopdlkkeohaaGreatDoorOpWrapAll
import Derived.Test.YthlhopdlkkeohaaGreatDoorTLeavesAll
/- The walk of the program's Right, and of the document's Good. -/
namespace Go.Proofs.YthlhopdlkkeohaaGreatDoor.T
open Go.Proofs.YthlhopdlkkeohaaGreatDoor.D
open Go.RowKit Go.Shelf

/-- A count in its variable, and the one ahead of it, while they are asked. -/
structure QS (w : World) (vb : Nat) (ad : Addr) (i : Nat) (x y : U) (W : World) : Prop where
  var : CAt W ⟨vb, 0, none⟩ y
  fst : CAt W (ad.add (i * 3)) x
  below : Below w.heap.size w W
theorem QS.on {w : World} {vb : Nat} {ad : Addr} {i : Nat} {x y : U} {W W' : World} (h : QS w vb ad i x y W) (hb : Below W.heap.size W W') : QS w vb ad i x y W' := ⟨h.var.on hb, h.fst.on hb, bchain h.below hb⟩
theorem ok_parts (u : U) : Ct.ok u = (Dt.right u.1.1 u.1.2 && decide (1 ≤ u.2) && decide (u.2 ≤ 64)) := rfl
abbrev uC9 (u : U) : Array Value := #[.int .i64 u.1.1, .int .i64 u.1.2, .int .i64 u.2]
/-- Right ones, and few. -/
def goodU (l : List U) : Bool := decide (l.length ≤ 100) && Ct.right l
theorem good_any (v : Value) (l : List U) (w : World) (hv : cntsIn w v l) :
    Calls Tryz.prog 25 #[v] w fun e w' => e = .returned (.bool (goodU l)) ∧ Below w.heap.size w w' := by
  by_cases h : l.length ≤ 100
  · have HC := refRight_cnts v l w hv (by omega)
    unfold goodU
    rw [decide_eq_true h]
    generalize Ct.right l = q at *
    obtain ⟨ao, c, rfl, _, _, h9⟩ := hv
    clear h9
    generalize l.length = n at *
    have h1 : (n : Int) ≤ 100 := by omega
    go_enter Tryz.func25, Tryz.ntmps25
    go_wp2_with (go_at_call 63; refine HC.mono ?_; rintro e w1 ⟨rfl, hb1⟩)
    go_ret
    exact ⟨rfl, hb1⟩
  · unfold goodU
    rw [decide_eq_false h]
    obtain ⟨ao, c, rfl, _, _, h9⟩ := hv
    clear h9
    generalize l.length = n at *
    have h1 : ¬ (n : Int) ≤ 100 := by omega
    go_enter Tryz.func25, Tryz.ntmps25
    go_wp2
    go_ret
    exact ⟨rfl, Below.refl _ _⟩
end Go.Proofs.YthlhopdlkkeohaaGreatDoor.T
/- The walks of the document's Good (of transactions), of the statement's Good, of live's With; what follows of transactions and counts that are good. -/
namespace Go.Proofs.YthlhopdlkkeohaaGreatDoor.O
open Go.RowKit

theorem txs_slice {w : World} {v : Value} {ts : List Tx.Txn} (h : txsIn w v ts) : ∃ ao cap, v = .slice ao ts.length cap := by
  obtain ⟨ao, cap, e, _⟩ := h
  exact ⟨ao, cap, e⟩
theorem cnts_slice {w : World} {v : Value} {u : List U} (h : T.cntsIn w v u) : ∃ ao cap, v = .slice ao u.length cap := by
  obtain ⟨ao, cap, e, _⟩ := h
  exact ⟨ao, cap, e⟩
def okT (t : Tx.Txn) : Bool := tshort t && decide (Tx.check t = 0)
def goodT (ts : List Tx.Txn) : Bool := decide (ts.length ≤ 20) && (Tx.rises ts && ts.all okT)
theorem okT_parts {t : Tx.Txn} (h : okT t = true) : tshort t = true ∧ Tx.check t = 0 := by simpa [okT] using h
theorem goodT_parts {ts : List Tx.Txn} (h : goodT ts = true) : ts.length ≤ 20 ∧ Tx.Rises ts ∧ ∀ t ∈ ts, okT t = true := by
  simp only [goodT, Bool.and_eq_true, decide_eq_true_eq, List.all_eq_true] at h
  exact ⟨h.1, Tx.rises_iff.1 h.2.1, h.2.2⟩
/-- An operation of a good transaction names only references that may be. -/
theorem okT_refs {t : Tx.Txn} (h : okT t = true) : ∀ o ∈ t.ops, ∀ x ∈ o.l, Os.ok x = true := fun o ho x hx => by
  have h1 := (Tx.check_zero (okT_parts h).2).2.2.2.2 o ho
  rcases h1 with h1 | ⟨_, h1⟩
  · have := (Os.check_zero h1).2.2.2.2.2.2.2
    exact (Os.ups_iff.1 this).1 x hx
  · rw [Os.gone_is h1] at hx
    simp at hx
theorem goU_ok {x : U} (h : Os.ok x = true) : goU x := by
  have h1 : (Dt.right x.1.1 x.1.2 = true ∧ 0 ≤ x.2) ∧ x.2 ≤ 15 := by simpa [Os.ok] using h
  have h2 := Dt.right_iff.1 h1.1.1
  exact ⟨WalkArith.wf_i64 (by omega), WalkArith.wf_i64 (by omega), WalkArith.wf_i64 (by omega)⟩
theorem okT_few {t : Tx.Txn} (h : okT t = true) : t.ops.length ≤ 1000 ∧ ∀ o ∈ t.ops, o.l.length ≤ 1000 ∧ ∀ x ∈ o.l, goU x := by
  have h1 := tshort_parts (okT_parts h).1
  exact ⟨by omega, fun o ho => ⟨by have := (short_parts (h1.2 o ho)).2.2; omega, fun x hx => goU_ok (okT_refs h o ho x hx)⟩⟩
theorem good_few {ts : List Tx.Txn} (h : ∀ t ∈ ts, okT t = true) : Few13 ts := fun t ht => okT_few (h t ht)
theorem good_dots {ts : List Tx.Txn} (h : ∀ t ∈ ts, okT t = true) : ∀ t ∈ ts, (Lit.int .i64 t.d.1).wf = true ∧ (Lit.int .i64 t.d.2).wf = true := fun t ht => by
  have h2 := Dt.right_iff.1 (Tx.check_zero (okT_parts (h t ht)).2).1
  exact ⟨WalkArith.wf_i64 (by omega), WalkArith.wf_i64 (by omega)⟩
/-- What All tells of good transactions is short. -/
theorem all_short {ts : List Tx.Txn} (h : ∀ t ∈ ts, okT t = true) {sn : D → Bool} {xs : List IE} (he : xs.map (·.1) = Lv.all ts sn) : ShortI xs := fun x hx => by
  have h1 : x.1 ∈ Lv.all ts sn := by rw [← he]; exact List.mem_map.2 ⟨x, hx, rfl⟩
  obtain ⟨t, ht, _, j, hj, _, _, e⟩ := Lv.mem_all.1 h1
  rw [e]
  exact (tshort_parts (okT_parts (h t ht)).1).2 _ (List.getElem_mem hj)
theorem all_len {ts : List Tx.Txn} (hn : ts.length ≤ 1000) (h : ∀ t ∈ ts, okT t = true) {sn : D → Bool} {xs : List IE} (he : xs.map (·.1) = Lv.all ts sn) : xs.length ≤ 1000000 := by
  have h1 := congrArg List.length he
  rw [List.length_map] at h1
  rw [h1]
  exact Nat.le_trans (Lv.allBy_len (B := 1000) fun t ht => (okT_few (h t ht)).1) (Nat.mul_le_mul_right 1000 hn)

set_option maxRecDepth 20000 in
set_option maxHeartbeats 2000000 in
theorem refGood_any (v : Value) (ts : List Tx.Txn) (w : World) (hw : ∀ t ∈ ts, txWide t) (hv : txsIn w v ts) :
    Calls Tryz.prog 24 #[v, .int .i64 20] w fun e w' => e = .returned (.bool (goodT ts)) ∧ Below w.heap.size w w' := by
  obtain ⟨ao, cap, rfl⟩ := txs_slice hv
  by_cases h20 : ts.length ≤ 20
  · have HR := refTrises_any _ ts w hv (by omega)
    unfold goodT
    rw [decide_eq_true h20, Bool.true_and]
    have HW : Hid (∀ t ∈ ts, txWide t) := hw
    obtain ⟨n, hn0⟩ : ∃ n, n = ts.length := ⟨_, rfl⟩
    have HN : Hid (n = ts.length) := hn0
    rw [← hn0] at hv h20 HR ⊢
    have HV : Hid (txsIn w (.slice ao n cap) ts) := hv
    have h20' : ¬ (20 : Int) < (n : Int) := by omega
    have HZ : Hid (allTo okT ts 0) := by have h := allTo_zero okT ts; exact h
    clear hn0 hv hw
    cases hr : Tx.rises ts with
    | false =>
      rw [hr] at HR
      rw [Bool.false_and]
      go_enter Tryz.func24, Tryz.ntmps24
      go_wp2_with (go_at_call 60; refine HR.mono ?_; rintro e w1 ⟨rfl, hb1⟩)
      go_ret
      exact ⟨rfl, hb1⟩
    | true =>
      rw [hr] at HR
      rw [Bool.true_and]
      clear hr
      go_enter Tryz.func24, Tryz.ntmps24
      go_wp2_with (go_at_call 60; refine HR.mono ?_; rintro e w1 ⟨rfl, hb1⟩)
      go_loopw [5] (fun i wr => ∃ k : Nat, k ≤ n ∧ i = .int .i64 k ∧ Hid (allTo okT ts k) ∧ Below w.heap.size w wr) (fun i _ => n - (intOf i).toNat)
      case atStart => exact ⟨0, by omega, rfl, HZ, hb1⟩
      case round =>
        clear HZ hb1 HR
        obtain ⟨k, hk, rfl, HS, hbw⟩ := hrel
        by_cases hkn : k < n
        · have hkx : k < ts.length := by rw [← HN.out]; exact hkn
          obtain ⟨ad, ov, rfl, hA, ho⟩ := (HV.out.on hbw).get hkx
          obtain ⟨oo, oc, rfl⟩ := ho.slice
          have HSh := fun W (hb : Below wr.heap.size wr W) => tshort_any ts[k] (.slice oo ts[k].ops.length oc) W (HW.out _ (List.getElem_mem hkx)) (ho.on hb)
          have HCk : tshort ts[k] = true → ∀ W, Below wr.heap.size wr W → Calls Tryz.prog 62 #[txV ts[k] (.slice oo ts[k].ops.length oc)] W fun e w' => e = .returned (.int .i64 (Tx.check ts[k] : Nat)) ∧ Below W.heap.size W w' := fun q W hb =>
            refTcheck_any ts[k] _ W (tshort_parts q).2 (by have := (tshort_parts q).1; omega) (ho.on hb)
          have HST : Hid (okT ts[k] = true → allTo okT ts (k + 1)) := by have h := allTo_step HS.out hkx; exact h
          have HNO : Hid (okT ts[k] = false → ts.all okT = false) := by have h := all_not (f := okT) hkx; exact h
          clear ho HS
          generalize ts[k] = t at *
          generalize t.ops.length = m at *
          obtain ⟨c0, c1, c2, c3, c4, c5⟩ := id hA
          cases h1 : tshort t with
          | false =>
            have HE : Hid (ts.all okT = false) := by have h := HNO.out (by simp [okT, h1]); exact h
            rw [h1] at HSh
            clear HST HNO HCk hA
            go_wp2_with (go_at_call 61; refine (HSh _ (Below.refl _ _)).mono ?_; rintro e w2 ⟨rfl, hb2⟩)
            go_ret
            exact ⟨ret_bool HE.out.symm, bchain hbw hb2⟩
          | true =>
            rw [h1] at HSh
            have HCk := HCk h1
            by_cases h2 : Tx.check t = 0
            · have HE : Hid (allTo okT ts (k + 1)) := by have h := HST.out (by simp [okT, h1, h2]); exact h
              rw [h2] at HCk
              clear HST HNO
              go_wp2_with (first
                | (go_at_call 61; refine (HSh _ (Below.refl _ _)).mono ?_; rintro e w2 ⟨rfl, hb2⟩; obtain ⟨c0, c1, c2, c3, c4, c5⟩ := hA.on hb2)
                | (go_at_call 62; refine (HCk _ hb2).mono ?_; rintro e w3 ⟨rfl, hb3⟩))
              go_roundw
              case rel => exact ⟨k + 1, by omega, by go_num, HE, bchain hbw (bchain hb2 hb3)⟩
              case measure => simp [intOf]; omega
            · have HE : Hid (ts.all okT = false) := by have h := HNO.out (by simp [okT, h1, h2]); exact h
              have h3 : (((Tx.check t : Nat) : Int) != 0) = true := by simpa using h2
              clear HST HNO h2
              generalize ((Tx.check t : Nat) : Int) = z at *
              go_wp2_with (first
                | (go_at_call 61; refine (HSh _ (Below.refl _ _)).mono ?_; rintro e w2 ⟨rfl, hb2⟩; obtain ⟨c0, c1, c2, c3, c4, c5⟩ := hA.on hb2)
                | (go_at_call 62; refine (HCk _ hb2).mono ?_; rintro e w3 ⟨rfl, hb3⟩))
              go_ret
              exact ⟨ret_bool HE.out.symm, bchain hbw (bchain hb2 hb3)⟩
        · have HE : Hid (ts.all okT = true) := by
            have h := allTo_end HS.out (by rw [← HN.out]; exact hkn)
            exact h
          go_wp2
          go_ret
          exact ⟨ret_bool HE.out.symm, hbw⟩
  · unfold goodT
    rw [decide_eq_false h20, Bool.false_and]
    generalize ts.length = n at *
    have h20' : (20 : Int) < (n : Int) := by omega
    clear hv hw
    go_enter Tryz.func24, Tryz.ntmps24
    go_wp2
    go_ret
    exact ⟨rfl, Below.refl _ _⟩

/-- Transactions and counts of which the statements ask. -/
def good13 (ts : List Tx.Txn) (u : List U) : Bool := goodT ts && T.goodU u
set_option maxRecDepth 20000 in
theorem good_any (v vu : Value) (ts : List Tx.Txn) (u : List U) (w : World) (hw : ∀ t ∈ ts, txWide t) (hv : txsIn w v ts) (hu : T.cntsIn w vu u) :
    Calls Tryz.prog 6 #[v, vu] w fun e w' => e = .returned (.bool (good13 ts u)) ∧ Below w.heap.size w w' := by
  have HG := refGood_any v ts w hw hv
  have HU := fun W (hb : Below w.heap.size w W) => T.good_any vu u W (hu.on hb)
  obtain ⟨ao, cap, rfl⟩ := txs_slice hv
  obtain ⟨uo, uc, rfl⟩ := cnts_slice hu
  clear hu hv hw
  unfold good13
  generalize ts.length = n at *
  generalize u.length = m at *
  cases h : goodT ts with
  | false =>
    rw [h] at HG
    rw [Bool.false_and]
    go_enter Tryz.func6, Tryz.ntmps6
    go_wp2_with (go_at_call 24; refine HG.mono ?_; rintro e w1 ⟨rfl, hb1⟩)
    go_ret
    exact ⟨rfl, hb1⟩
  | true =>
    rw [h] at HG
    rw [Bool.true_and]
    generalize T.goodU u = q at *
    go_enter Tryz.func6, Tryz.ntmps6
    go_wp2_with (first
      | (go_at_call 24; refine HG.mono ?_; rintro e w1 ⟨rfl, hb1⟩)
      | (go_at_call 25; refine (HU _ hb1).mono ?_; rintro e w2 ⟨rfl, hb2⟩))
    go_ret
    exact ⟨rfl, bchain hb1 hb2⟩
theorem good13_parts {ts : List Tx.Txn} {u : List U} (h : good13 ts u = true) : (ts.length ≤ 20 ∧ Tx.Rises ts ∧ ∀ t ∈ ts, okT t = true) ∧ u.length ≤ 100 ∧ Ct.Std u := by
  have h1 : goodT ts = true ∧ T.goodU u = true := by simpa [good13] using h
  have h2 : u.length ≤ 100 ∧ Ct.right u = true := by simpa [T.goodU] using h1.2
  exact ⟨goodT_parts h1.1, h2.1, Ct.right_iff.1 h2.2⟩
end Go.Proofs.YthlhopdlkkeohaaGreatDoor.O
/- What Keys, Leaves, Deep and the example tell, by the items alone; All at any world behind the first. -/
namespace Go.Proofs.YthlhopdlkkeohaaGreatDoor.O
open Go.RowKit

/-- Items in memory that are these. -/
def ItsAt (its : List Lv.Item) (w : World) (r : Value) : Prop := ∃ xs : List IE, itsE w r xs ∧ xs.map (·.1) = its ∧ ShortI xs ∧ xs.length ≤ 1000000
theorem ItsAt.on {its : List Lv.Item} {w w' : World} {r : Value} (h : ItsAt its w r) (hb : Below w.heap.size w w') : ItsAt its w' r := by
  obtain ⟨xs, h1, h2⟩ := h
  exact ⟨xs, h1.on hb, h2⟩
theorem ItsAt.slice {its : List Lv.Item} {w : World} {r : Value} (h : ItsAt its w r) : ∃ ao cap, r = .slice ao its.length cap := by
  obtain ⟨xs, h1, h2, _⟩ := h
  obtain ⟨ao, cap, e⟩ := h1.slice
  exact ⟨ao, cap, by rw [e, ← h2, List.length_map]⟩
/-- Leaves in memory that are theirs. -/
def LvsAt (its : List Lv.Item) (w : World) (r : Value) : Prop := ∃ zs : List LE, lvsE w r zs ∧ zs.map Prod.fst = Tr.leaves its ∧ (∀ x ∈ zs, x.1.1.length ≤ 2000000) ∧ zs.length ≤ 1000000
theorem LvsAt.on {its : List Lv.Item} {w w' : World} {r : Value} (h : LvsAt its w r) (hb : Below w.heap.size w w') : LvsAt its w' r := by
  obtain ⟨zs, h1, h2⟩ := h
  exact ⟨zs, h1.on hb, h2⟩
theorem LvsAt.slice {its : List Lv.Item} {w : World} {r : Value} (h : LvsAt its w r) : ∃ ao cap, r = .slice ao (Tr.leaves its).length cap := by
  obtain ⟨zs, h1, h2, _⟩ := h
  obtain ⟨ao, cap, e⟩ := h1.slice
  exact ⟨ao, cap, by rw [e, ← h2, List.length_map]⟩
theorem leaves_len (its : List Lv.Item) : (Tr.leaves its).length ≤ its.length := by
  unfold Tr.leaves
  have := Li.vals_len (comp := Tr.lcomp) (its.map Tr.leafOf)
  rw [List.length_map] at this
  exact this
section
variable {its : List Lv.Item} {r vp : Value} {p : List (List UInt8)} {w : World}
end
/-- What All tells, at any world behind the first, whatever was laid since. -/
def AllC (f : FuncId) (w : World) (v vu : Value) (its : List Lv.Item) : Prop := ∀ W, Below w.heap.size w W → Calls Tryz.prog f #[v, vu] W fun e w' => ∃ r, e = .returned r ∧ ItsAt its w' r ∧ Below W.heap.size W w'
theorem allC {v vu : Value} {ts : List Tx.Txn} {u : List U} {w : World} (hv : txsIn w v ts) (hu : T.cntsIn w vu u) (hn : ts.length ≤ 1000) (hg : ∀ t ∈ ts, okT t = true) (hun : u.length ≤ 1000000) (hp : Ct.Std u) : AllC 9 w v vu (Lv.all ts (seenD u)) := fun W hb =>
  (all_any v vu ts u W (hv.on hb) (hu.on hb) hn (good_few hg) (good_dots hg) hun hp).mono fun _ _ ⟨r, xs, h1, h2, h3, h4⟩ => ⟨r, h1, ⟨xs, h2, h3, all_short hg h3, all_len hn hg h3⟩, h4⟩
/-- Their kinds are those of leaves; their paths may be. -/
theorem all_able {ts : List Tx.Txn} {sn : D → Bool} : ∀ i ∈ Lv.all ts sn, Lv.able i.o.k = true := fun i hi => by
  obtain ⟨t, ht, _, j, hj, ha, _, e⟩ := Lv.mem_all.1 hi
  rw [e]
  exact ha
end Go.Proofs.YthlhopdlkkeohaaGreatDoor.O
