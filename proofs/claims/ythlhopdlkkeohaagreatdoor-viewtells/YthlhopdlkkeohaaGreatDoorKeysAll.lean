/- References as keys of a map; a set of them · The walk of coveredBy: the set of all references that the operations of some transactions name · All, place by place, as plain mathematics; operations of a region that turn the world. -/
import Derived.Test.YthlhopdlkkeohaaGreatDoorItMemAll
import Derived.Maps.OwnSet
import Derived.DeepKeys4
import Derived.Test.YthlhopdlkkeohaaGreatDoorRefCov
/- References as keys of a map; a set of them. -/
namespace Go.Proofs.YthlhopdlkkeohaaGreatDoor.O
open Go.RowKit Go.Maps

theorem laid_out9 : laidOutB Tryz.prog = true := by kernel_rfl
theorem keyLaw : Keyed Tryz.prog 70 := Keyed.of_law (deep_law_laid laid_out9 (m := 3) (by omega) (of_decide_eq_true (by kernel_rfl)) (by kernel_rfl) (by kernel_rfl))
/-- Numbers that a machine holds. -/
def goU (x : U) : Prop := (Lit.int .i64 x.1.1).wf = true ∧ (Lit.int .i64 x.1.2).wf = true ∧ (Lit.int .i64 x.2).wf = true
theorem keyT : Tryz.prog.keyType 70 = true := by kernel_rfl
theorem cells50 : Tryz.prog.cellsOf 70 = 3 := by kernel_rfl
theorem cells44 : Tryz.prog.cellsOf 53 = 2 := by kernel_rfl
theorem cells3 : Tryz.prog.cellsOf 3 = 1 := by kernel_rfl
theorem kl3 (d : Nat) {n : Int} (h : (Lit.int .i64 n).wf = true) : Tryz.prog.keyLits (d + 1) 3 [.int .i64 n] = some [.int .i64 n] := by
  unfold Program.keyLits
  simp [Tryz.underlying3, h]
theorem kl44 (d : Nat) {a b : Int} (h1 : (Lit.int .i64 a).wf = true) (h2 : (Lit.int .i64 b).wf = true) : Tryz.prog.keyLits (d + 2) 53 [.int .i64 a, .int .i64 b] = some [.int .i64 a, .int .i64 b] := by
  unfold Program.keyLits
  simp [Tryz.underlying53, cells44, cells3, kl3 d h1, kl3 d h2]
theorem kl50 (d : Nat) {a b c : Int} (h1 : (Lit.int .i64 a).wf = true) (h2 : (Lit.int .i64 b).wf = true) (h3 : (Lit.int .i64 c).wf = true) : Tryz.prog.keyLits (d + 3) 70 [.int .i64 a, .int .i64 b, .int .i64 c] = some [.int .i64 a, .int .i64 b, .int .i64 c] := by
  have e3 := kl3 (d + 1) h3
  have e44 := kl44 d h1 h2
  unfold Program.keyLits
  simp [Tryz.underlying70, cells50, cells44, cells3, e3, e44]
/-- What a reference reads as. -/
def keyL (x : U) : Lit := .string (keyBytes [.int .i64 x.1.1, .int .i64 x.1.2, .int .i64 x.2])
theorem keyL_of {x : U} (h : goU x) : keyOf Tryz.prog 70 (uV x) = some (keyL x) := by
  obtain ⟨h1, h2, h3⟩ := h
  have hf : (uV x).formed Tryz.prog 70 = true := by simp [Value.formed, Tryz.underlying70, cells50]
  obtain ⟨d, hd⟩ : ∃ d, Tryz.prog.types.size + 1 = d + 3 := ⟨Tryz.prog.types.size - 2, by have : 3 ≤ Tryz.prog.types.size := of_decide_eq_true (by kernel_rfl); omega⟩
  have e := kl50 d h1 h2 h3
  unfold keyOf
  simp only [Tryz.underlying70, keyT, hf, Bool.and_self, if_true, hd]
  rw [show (uV x).cells.toList = [.int .i64 x.1.1, .int .i64 x.1.2, .int .i64 x.2] from rfl, e]
  rfl
theorem keyL_inj {x y : U} (hx : goU x) (hy : goU y) (e : keyL x = keyL y) : x = y := by
  have h := keyLaw.inj (keyL_of hx) (by rw [e]; exact keyL_of hy)
  obtain ⟨⟨a, b⟩, c⟩ := x
  obtain ⟨⟨a', b'⟩, c'⟩ := y
  simp at h
  obtain ⟨rfl, rfl, rfl⟩ := h
  rfl
/-- The set of these references. -/
def refSet (L : List U) : DataW Unit := setOf (.agg []) (L.map keyL)
theorem refSet_nil : refSet [] = .map [] := rfl
theorem refSet_snoc (L : List U) (x : U) : refSet (L ++ [x]) = (refSet L).put (keyL x) (.agg []) := by
  unfold refSet
  rw [List.map_append]
  exact setOf_snoc _ _ _
theorem has_refSet {L : List U} (hL : ∀ x ∈ L, goU x) {x : U} (hx : goU x) : Maps.has (refSet L) (keyL x) = decide (x ∈ L) := by
  unfold refSet
  rw [has_setOf _ _ _ (fun l hl => by
    obtain ⟨y, hy, rfl⟩ := List.mem_map.1 hl
    exact keyLaw.key (keyL_of (hL y hy)))]
  rw [Bool.eq_iff_iff, List.any_eq_true, decide_eq_true_iff]
  constructor
  · rintro ⟨l, hl, hs⟩
    obtain ⟨y, hy, rfl⟩ := List.mem_map.1 hl
    have := keyL_inj (hL y hy) hx (WideAt.sameKey_eq hs)
    rw [← this]
    exact hy
  · intro h
    exact ⟨_, List.mem_map.2 ⟨x, h, rfl⟩, WideAt.sameKey_self (keyLaw.key (keyL_of hx))⟩
theorem zero78 (w : World) : (zeroValue 72).run Tryz.prog w = .ok (.agg #[]) w := by kernel_rfl
end Go.Proofs.YthlhopdlkkeohaaGreatDoor.O
/- The walk of coveredBy: the set of all references that the operations of some transactions name. -/
namespace Go.Proofs.YthlhopdlkkeohaaGreatDoor.O
open Go.RowKit Go.Maps

/-- What all operations of these transactions name. -/
def namesO (os : List Os.Op) : List U := os.flatMap (·.l)
def namesT (ts : List Tx.Txn) : List U := ts.flatMap fun t => namesO t.ops
theorem namesO_step (os : List Os.Op) {k : Nat} (h : k < os.length) : namesO (os.take (k + 1)) = namesO (os.take k) ++ os[k].l := by
  unfold namesO
  rw [List.take_succ_eq_append_getElem h, List.flatMap_append]
  simp
theorem namesT_step (ts : List Tx.Txn) {k : Nat} (h : k < ts.length) : namesT (ts.take (k + 1)) = namesT (ts.take k) ++ namesO ts[k].ops := by
  unfold namesT
  rw [List.take_succ_eq_append_getElem h, List.flatMap_append]
  simp
theorem namesT_zero (ts : List Tx.Txn) : namesT (ts.take 0) = [] := rfl
theorem namesO_zero (os : List Os.Op) : namesO (os.take 0) = [] := rfl
theorem refsIn.get {w : World} {ao : Option Addr} {n cap : Nat} {l : List U} (h : refsIn w (.slice ao n cap) l) {k : Nat} (hk : k < l.length) : ∃ ad, ao = some ad ∧ CAt w (ad.add (k * 3)) l[k] := by
  obtain ⟨ao', c, e, _, _, hc⟩ := h
  cases e
  exact hc k hk
theorem namesO_le (os : List Os.Op) (j : Nat) : (namesO (os.take j)).length ≤ (namesO os).length := by
  have h : namesO os = namesO (os.take j) ++ namesO (os.drop j) := by
    unfold namesO
    rw [← List.flatMap_append, List.take_append_drop]
  rw [h, List.length_append]
  omega
theorem namesT_le (ts : List Tx.Txn) (j : Nat) : (namesT (ts.take j)).length ≤ (namesT ts).length := by
  have h : namesT ts = namesT (ts.take j) ++ namesT (ts.drop j) := by
    unfold namesT
    rw [← List.flatMap_append, List.take_append_drop]
  rw [h, List.length_append]
  omega
theorem namesO_many {B : Nat} : ∀ {os : List Os.Op}, (∀ o ∈ os, o.l.length ≤ B) → (namesO os).length ≤ os.length * B
  | [], _ => by simp [namesO]
  | o :: r, h => by
    have h1 := namesO_many (os := r) fun x hx => h x (by simp [hx])
    have h2 := h o (by simp)
    have e : namesO (o :: r) = o.l ++ namesO r := by simp [namesO]
    rw [e, List.length_append, List.length_cons, Nat.succ_mul]
    omega
theorem namesT_many {B : Nat} : ∀ {ts : List Tx.Txn}, (∀ t ∈ ts, (namesO t.ops).length ≤ B) → (namesT ts).length ≤ ts.length * B
  | [], _ => by simp [namesT]
  | t :: r, h => by
    have h1 := namesT_many (ts := r) fun x hx => h x (by simp [hx])
    have h2 := h t (by simp)
    have e : namesT (t :: r) = namesO t.ops ++ namesT r := by simp [namesT]
    rw [e, List.length_append, List.length_cons, Nat.succ_mul]
    omega
theorem mem_namesT {ts : List Tx.Txn} {x : U} : x ∈ namesT ts ↔ ∃ t ∈ ts, ∃ o ∈ t.ops, x ∈ o.l := by simp [namesT, namesO]
/-- Few operations, which name few, of numbers that a machine holds. -/
def Few13 (ts : List Tx.Txn) : Prop := ∀ t ∈ ts, t.ops.length ≤ 1000 ∧ ∀ o ∈ t.ops, o.l.length ≤ 1000 ∧ ∀ x ∈ o.l, goU x

theorem Few13.many {ts : List Tx.Txn} (h : Few13 ts) (hn : ts.length ≤ 1000) : (namesT ts).length ≤ 1000000000 := by
  have h1 := namesT_many (B := 1000000) (ts := ts) fun t ht => by
    obtain ⟨h2, h3⟩ := h t ht
    have h4 := namesO_many (B := 1000) (os := t.ops) fun o ho => (h3 o ho).1
    exact Nat.le_trans h4 (Nat.mul_le_mul_right 1000 h2)
  exact Nat.le_trans h1 (Nat.mul_le_mul_right 1000000 hn)
set_option maxRecDepth 20000 in
set_option maxHeartbeats 4000000 in
theorem coveredBy_any (v : Value) (ts : List Tx.Txn) (w : World) (hv : txsIn w v ts) (hn : ts.length ≤ 1000) (hf : Few13 ts) :
    Calls Tryz.prog 28 #[v] w fun e w' => e = .returned (.map (some w.heap.size)) ∧ (∃ n, n ≤ 1000000000 ∧ w'.ownsMap Tryz.prog 70 unitElem w.heap.size n (refSet (namesT ts))) ∧ Below w.heap.size w w' := by
  have hmm := @run_makeMap Tryz.prog
  obtain ⟨N9, hN9⟩ : ∃ N, (namesT ts).length = N := ⟨_, rfl⟩
  have hN9b : N9 ≤ 1000000000 := by rw [← hN9]; exact hf.many hn
  have HN9 : Hid ((namesT ts).length = N9) := hN9
  clear hN9
  obtain ⟨ao, cap, rfl, _, _, _⟩ := id hv
  obtain ⟨n, hn0⟩ : ∃ n, n = ts.length := ⟨_, rfl⟩
  have HN : Hid (n = ts.length) := hn0
  rw [← hn0] at hv hn ⊢
  have HV : Hid (txsIn w (.slice ao n cap) ts) := hv
  have HF : Hid (Few13 ts) := hf
  clear hn0 hv hf
  obtain ⟨W0, hW0⟩ : ∃ W0, W0 = w.alloc (.map #[] 0) := ⟨_, rfl⟩
  have B0 : Below w.heap.size w W0 := by rw [hW0]; exact below_new _ _
  have M0 : W0.ownsMap Tryz.prog 70 (unitElem (H := Unit)) w.heap.size 0 (refSet []) := by rw [hW0]; exact World.ownsMap_made _ _ _ _
  have s0 : w.heap.size + 1 ≤ W0.heap.size := by rw [hW0]; simp
  go_enter Tryz.func28, Tryz.ntmps28
  go_wp2
  rw [← hW0]
  clear hW0
  go_loopw [5, 7, 9, 13] (fun _ _ _ i wr => ∃ (k : Nat) (L : List U), k ≤ n ∧ i = .int .i64 k ∧ Hid (L = namesT (ts.take k)) ∧ wr.ownsMap Tryz.prog 70 (unitElem (H := Unit)) w.heap.size L.length (refSet L) ∧ Below w.heap.size w wr ∧ w.heap.size + 1 ≤ wr.heap.size) (fun _ _ _ i _ => n - (intOf i).toNat)
  case atStart => exact ⟨0, [], by omega, rfl, namesT_zero ts, M0, B0, s0⟩
  case round =>
    clear M0 s0 B0
    obtain ⟨k, L, hk, rfl, HL, hM, hbw, hsz⟩ := hrel
    by_cases hlt : k < n
    · have hkx : k < ts.length := by rw [← HN.out]; exact hlt
      obtain ⟨ad, ov, rfl, hA, ho⟩ := HV.out.get hkx
      obtain ⟨c0, c1, c2, c3, c4, c5⟩ := hA.on hbw
      have hfew := HF.out _ (List.getElem_mem hkx)
      have HS : Hid (namesT (ts.take (k + 1)) = L ++ namesO ts[k].ops) := by
        have h := namesT_step ts hkx
        rw [← HL.out] at h
        exact h
      have F1 : L.length + (namesO ts[k].ops).length ≤ N9 := by
        have h := namesT_le ts (k + 1)
        rw [HS.out, List.length_append, HN9.out] at h
        exact h
      obtain ⟨oo, oc, rfl⟩ := ho.slice
      generalize ts[k] = t at *
      obtain ⟨m, hm⟩ : ∃ m, m = t.ops.length := ⟨_, rfl⟩
      have HM : Hid (m = t.ops.length) := hm
      rw [← hm] at ho c5
      have hm1 : m ≤ 1000 := by rw [hm]; exact hfew.1
      have HO : Hid (opsIn w (.slice oo m oc) t.ops) := ho
      have HW : Hid (∀ o ∈ t.ops, o.l.length ≤ 1000 ∧ ∀ x ∈ o.l, goU x) := hfew.2
      clear hm ho hfew hA HL
      obtain ⟨W1, hW1⟩ : ∃ W1, W1 = wr.alloc (txO t (.slice oo m oc)) := ⟨_, rfl⟩
      have B1 : Below wr.heap.size wr W1 := by rw [hW1]; exact below_new _ _
      have M1 : W1.ownsMap Tryz.prog 70 (unitElem (H := Unit)) w.heap.size L.length (refSet L) := by rw [hW1]; exact hM.alloc _
      have s1 : w.heap.size + 1 ≤ W1.heap.size := by rw [hW1]; simp; omega
      go_wp2
      rw [← hW1]
      clear hW1
      go_loopw [7, 9, 20] (fun _ _ i wr => ∃ (j : Nat) (L2 : List U), j ≤ m ∧ i = .int .i64 j ∧ Hid (L2 = L ++ namesO (t.ops.take j)) ∧ wr.ownsMap Tryz.prog 70 (unitElem (H := Unit)) w.heap.size L2.length (refSet L2) ∧ Below w.heap.size w wr ∧ w.heap.size + 1 ≤ wr.heap.size) (fun _ _ i _ => m - (intOf i).toNat)
      case atStart => exact ⟨0, L, by omega, rfl, show L = L ++ namesO (t.ops.take 0) from by rw [namesO_zero, List.append_nil], M1, hbw.trans (B1.mono (by omega)), s1⟩
      case round =>
        clear M1 s1 B1 hM hbw hsz c0 c1 c2 c3 c4 c5
        obtain ⟨j, L2, hj, rfl, HL2, hM, hbw, hsz⟩ := hrel
        by_cases hlt2 : j < m
        · have hjx : j < t.ops.length := by rw [← HM.out]; exact hlt2
          obtain ⟨ad2, pv, sv, rfl, hA, _, hs⟩ := HO.out.get hjx
          obtain ⟨d0, d1, d2, d3, d4, d5, d6⟩ := hA.on hbw
          have hfew := HW.out _ (List.getElem_mem hjx)
          have HS2 : Hid (L ++ namesO (t.ops.take (j + 1)) = L2 ++ t.ops[j].l) := by
            have h := namesO_step t.ops hjx
            have h2 : L ++ namesO (t.ops.take (j + 1)) = L2 ++ t.ops[j].l := by rw [h, HL2.out, List.append_assoc]
            exact h2
          have F2 : L2.length + (t.ops[j].l).length ≤ N9 := by
            have h := namesO_le t.ops (j + 1)
            have h2 := congrArg List.length HS2.out
            rw [List.length_append, List.length_append] at h2
            omega
          obtain ⟨so, sn, sc, rfl⟩ := refs_slice hs
          obtain rfl := hs.len
          generalize t.ops[j] = o at *
          obtain ⟨q, hq⟩ : ∃ q, q = o.l.length := ⟨_, rfl⟩
          have HQ : Hid (q = o.l.length) := hq
          rw [← hq] at hs d6 F2
          have hq1 : q ≤ 1000 := by rw [hq]; exact hfew.1
          have HR : Hid (refsIn w (.slice so q sc) o.l) := hs
          have HG : Hid (∀ x ∈ o.l, goU x) := hfew.2
          obtain ⟨pa, pn, pc, rfl⟩ : ∃ a n c, pv = .slice a n c := by
            rename_i hp
            exact strs_slice hp
          clear hq hs hfew hA HL2
          obtain ⟨W1, hW1⟩ : ∃ W1, W1 = wr.alloc (oO o (.slice pa pn pc) (.slice so q sc)) := ⟨_, rfl⟩
          have B1 : Below wr.heap.size wr W1 := by rw [hW1]; exact below_new _ _
          have M1 : W1.ownsMap Tryz.prog 70 (unitElem (H := Unit)) w.heap.size L2.length (refSet L2) := by rw [hW1]; exact hM.alloc _
          have s1 : w.heap.size + 1 ≤ W1.heap.size := by rw [hW1]; simp; omega
          go_wp2
          rw [← hW1]
          clear hW1
          go_loopw [9, 27] (fun _ i wr => ∃ (r : Nat) (L3 : List U), r ≤ q ∧ i = .int .i64 r ∧ Hid (L3 = L2 ++ o.l.take r) ∧ wr.ownsMap Tryz.prog 70 (unitElem (H := Unit)) w.heap.size L3.length (refSet L3) ∧ Below w.heap.size w wr ∧ w.heap.size + 1 ≤ wr.heap.size) (fun _ i _ => q - (intOf i).toNat)
          case atStart => exact ⟨0, L2, by omega, rfl, show L2 = L2 ++ o.l.take 0 from by rw [List.take_zero, List.append_nil], M1, hbw.trans (B1.mono (by omega)), s1⟩
          case round =>
            clear M1 s1 B1 hM hbw hsz d0 d1 d2 d3 d4 d5 d6
            obtain ⟨r, L3, hr, rfl, HL3, hM, hbw, hsz⟩ := hrel
            by_cases hlt3 : r < q
            · have hrx : r < o.l.length := by rw [← HQ.out]; exact hlt3
              obtain ⟨ad3, rfl, hA⟩ := HR.out.get hrx
              obtain ⟨e0, e1, e2⟩ := hA.on hbw
              have hg := HG.out _ (List.getElem_mem hrx)
              have HS3 : Hid (L2 ++ o.l.take (r + 1) = L3 ++ [o.l[r]]) := by
                have h : L2 ++ o.l.take (r + 1) = L3 ++ [o.l[r]] := by rw [List.take_succ_eq_append_getElem hrx, HL3.out, List.append_assoc]
                exact h
              have F3 : L3.length + 1 ≤ N9 := by
                have h2 := congrArg List.length HL3.out
                rw [List.length_append, List.length_take] at h2
                omega
              generalize o.l[r] = x at *
              have hkey := keyL_of hg
              clear hA HL3
              go_wp2_with (first
                | (at_mapUpdate; refine wpList_mapUpdate_own _ rfl _ _ _ 67 rfl 70 72 keyLaw Tryz.underlying67 (unitElem (H := Unit)) w.heap.size L3.length _ rfl (hM.alloc _) (by unfold maxLen; omega) _ _ _ rfl rfl hkey _ [] unitElem_mk ?_; intro w1 hM1 hg1)
                | go_in)
              have z1 := hg1.size
              simp at z1
              go_roundw
              case rel =>
                refine ⟨r + 1, L3 ++ [x], by omega, by go_num, HS3.out.symm, ?_, ?_, by omega⟩
                · rw [refSet_snoc, List.length_append]
                  exact hM1
                · exact (hbw.alloc (by omega) _).grown hg1 (by simp; omega) (fun g hg => by cases hg; exact Nat.le_refl _)
              case measure => simp [intOf]; omega
            · obtain rfl : r = q := by omega
              have HE : Hid (L3 = L ++ namesO (t.ops.take (j + 1))) := by
                have h := HL3.out
                rw [HQ.out, List.take_length] at h
                have h2 := h.trans HS2.out.symm
                exact h2
              go_wp2
              go_roundw
              case rel => exact ⟨j + 1, L3, by omega, by go_num, HE, hM, hbw, hsz⟩
              case measure => simp [intOf]; omega
        · obtain rfl : j = m := by omega
          have HE : Hid (L2 = namesT (ts.take (k + 1))) := by
            have h := HL2.out
            rw [HM.out, List.take_length] at h
            have h2 := h.trans HS.out.symm
            exact h2
          go_wp2
          go_roundw
          case rel => exact ⟨k + 1, L2, by omega, by go_num, HE, hM, hbw, hsz⟩
          case measure => simp [intOf]; omega
    · obtain rfl : k = n := by omega
      have HE : Hid (L = namesT ts) := by
        have h := HL.out
        rw [HN.out, List.take_length] at h
        exact h
      go_wp2
      go_ret
      exact ⟨rfl, ⟨L.length, by rw [HE.out, HN9.out]; exact hN9b, by rw [← HE.out]; exact hM⟩, hbw⟩
end Go.Proofs.YthlhopdlkkeohaaGreatDoor.O
/- All, place by place, as plain mathematics; operations of a region that turn the world. -/
namespace Go.Proofs.YthlhopdlkkeohaaGreatDoor.O
open Go.RowKit

/-- The items of the first operations of a transaction. -/
def itTo (cov : U → Bool) (sn : D → Bool) (t : Tx.Txn) (j : Nat) : List Lv.Item := if sn t.d = true then Lv.items cov t.d t.t 0 (t.ops.take j) else []
theorem itTo_zero (cov : U → Bool) (sn : D → Bool) (t : Tx.Txn) : itTo cov sn t 0 = [] := by simp [itTo, Lv.items]
theorem itTo_hit {cov : U → Bool} {sn : D → Bool} {t : Tx.Txn} {j : Nat} (hj : j < t.ops.length) (hs : sn t.d = true) (ha : Lv.able t.ops[j].k = true) (hc : cov (t.d, (j : Int)) = false) : itTo cov sn t (j + 1) = itTo cov sn t j ++ [⟨(t.d, (j : Int)), t.ops[j], t.t⟩] := by
  unfold itTo
  rw [if_pos hs, if_pos hs, Lv.items_step _ _ _ _ hj, if_pos ⟨ha, hc⟩]
theorem itTo_miss {cov : U → Bool} {sn : D → Bool} {t : Tx.Txn} {j : Nat} (hj : j < t.ops.length) (h : ¬ (sn t.d = true ∧ Lv.able t.ops[j].k = true ∧ cov (t.d, (j : Int)) = false)) : itTo cov sn t (j + 1) = itTo cov sn t j := by
  unfold itTo
  by_cases hs : sn t.d = true
  · rw [if_pos hs, if_pos hs, Lv.items_step _ _ _ _ hj, if_neg fun q => h ⟨hs, q.1, q.2⟩, List.append_nil]
  · rw [if_neg hs, if_neg hs]
theorem itTo_end {cov : U → Bool} {sn : D → Bool} {t : Tx.Txn} {j : Nat} (hj : ¬ j < t.ops.length) : itTo cov sn t j = Lv.itemsOf cov sn t := by
  unfold itTo Lv.itemsOf
  rw [List.take_of_length_le (by omega)]
theorem allBy_le (cov : U → Bool) (sn : D → Bool) (ts : List Tx.Txn) (k : Nat) : (Lv.allBy cov sn (ts.take k)).length ≤ (Lv.allBy cov sn ts).length := by
  have h : Lv.allBy cov sn ts = Lv.allBy cov sn (ts.take k) ++ Lv.allBy cov sn (ts.drop k) := by
    unfold Lv.allBy
    rw [← List.flatMap_append, List.take_append_drop]
  rw [h, List.length_append]
  omega
theorem itTo_le (cov : U → Bool) (sn : D → Bool) (t : Tx.Txn) (j : Nat) : (itTo cov sn t j).length ≤ (Lv.itemsOf cov sn t).length := by
  unfold itTo Lv.itemsOf
  split
  · have h : Lv.items cov t.d t.t 0 t.ops = Lv.items cov t.d t.t 0 (t.ops.take j) ++ Lv.items cov t.d t.t (0 + (t.ops.take j).length) (t.ops.drop j) := by
      rw [← Lv.items_append, List.take_append_drop]
    rw [h, List.length_append]
    omega
  · simp
theorem allBy_zero (cov : U → Bool) (sn : D → Bool) (ts : List Tx.Txn) : Lv.allBy cov sn (ts.take 0) = [] := by simp [Lv.allBy]
/-- Of those that count all are asked. -/
theorem allBy_filter (cov : U → Bool) (sn : D → Bool) : ∀ ts : List Tx.Txn, Lv.allBy cov (fun _ => true) (ts.filter fun t => sn t.d) = Lv.allBy cov sn ts
  | [] => rfl
  | t :: r => by
    have ih := allBy_filter cov sn r
    have e : ∀ s q, Lv.allBy cov s (t :: q) = Lv.itemsOf cov s t ++ Lv.allBy cov s q := fun s q => by simp [Lv.allBy]
    cases h : sn t.d with
    | true =>
      rw [List.filter_cons_of_pos (by simpa using h), e, e, ih]
      congr 1
      simp [Lv.itemsOf, h]
    | false =>
      rw [List.filter_cons_of_neg (by simp [h]), e, ih]
      simp [Lv.itemsOf, h]
theorem covered_filter (ts : List Tx.Txn) (sn : D → Bool) (x : U) : decide (x ∈ namesT (ts.filter fun t => sn t.d)) = Lv.covered ts sn x := by
  rw [Bool.eq_iff_iff, decide_eq_true_iff, mem_namesT]
  unfold Lv.covered Lv.names
  rw [List.any_eq_true]
  constructor
  · rintro ⟨t, ht, o, ho, hx⟩
    have := List.mem_filter.1 ht
    refine ⟨t, this.1, ?_⟩
    rw [Bool.and_eq_true]
    exact ⟨this.2, List.any_eq_true.2 ⟨o, ho, decide_eq_true hx⟩⟩
  · rintro ⟨t, ht, h⟩
    rw [Bool.and_eq_true] at h
    obtain ⟨o, ho, hx⟩ := List.any_eq_true.1 h.2
    exact ⟨t, List.mem_filter.2 ⟨ht, h.1⟩, o, ho, of_decide_eq_true hx⟩
/-- An item more in a row. -/
theorem new_item (w : World) (x : IE) (T : TypeId) : ∀ j v, ([x].flatMap icell)[j]? = some v → (w.alloc (.cells (icell x).toArray T)).cell? ((⟨w.heap.size, 0, none⟩ : Addr).add j) = some v := fun j v hv => by
  refine new_cells w (icell x) T j v ?_
  simpa using hv

theorem heap_lt9 {w : World} {b : Nat} {o : Obj} (h : w.heap[b]? = some o) : b < w.heap.size := (Array.getElem?_eq_some_iff.1 h).1
/-- A block of another type is not the row's. -/
theorem own_ne_block {w : World} {B s n b : Nat} {e e' : TypeId} {v : Value} {xs : List Value} {cs : Array Value} (h : w.ownsRow B e s v n xs) (hb : w.heap[b]? = some (.cells cs e' (0, 0))) (he : e' ≠ e) : some b ≠ v.ownBlock := by
  rcases h.2 with ⟨rfl, _⟩ | ⟨k, cap, cur, rfl, _, hk, _⟩
  · intro q; cases q
  · intro q
    have e1 : b = k := Option.some.inj q
    subst e1
    rw [hb] at hk
    have := Option.some.inj hk
    injection this with _ e3 _
    exact he e3
section
variable {P : Program} {md : Region.Mode} {ops : Array Oper} {Q : Exit → Act → World → Prop} {S : World → Prop} {i : Nat} {o : Oper} {v : Value} {fuel : Nat} {listed : Array Bool} {a : Act} {w w' : World}
/-- An operation that turns the world. -/
theorem held_run (ho : ops[i]? = some o) (hr : Region.ready md ops listed = [i]) (hw : Region.wanted o (yielded ops a.tmps) = true) (he : (execOp a.eval o).run P w = .ok (.value v) w') (hS : S w')
    (h : wpAnyH P md ops Q S fuel (listed.setIfInBounds i true) (a.put o.dst v) w') : wpAnyH P md ops Q S (fuel + 1) listed a w :=
  wpAnyH_ready hr (by simp) (AllReadyH.cons ho (fun K hK => by
    rw [if_pos hw, Oper.wp, he]
    exact hK.out _ _ hS (fun _ => h)) AllReadyH.nil)
/-- An operation that is only told of. -/
theorem held_wp {R : Value → World → Prop} (ho : ops[i]? = some o) (hr : Region.ready md ops listed = [i]) (hw : Region.wanted o (yielded ops a.tmps) = true)
    (he : ∀ (K : Act → World → Prop) (Q : Exit → Act → World → Prop), (∀ v' w', R v' w' → K (a.put o.dst v') w') → o.wp P a w K Q)
    (h : ∀ v' w', R v' w' → S w' ∧ wpAnyH P md ops Q S fuel (listed.setIfInBounds i true) (a.put o.dst v') w') : wpAnyH P md ops Q S (fuel + 1) listed a w :=
  wpAnyH_ready hr (by simp) (AllReadyH.cons ho (fun K hK => by
    rw [if_pos hw]
    exact he _ _ fun v' w' hR => hK.out _ _ (h v' w' hR).1 (fun _ => (h v' w' hR).2)) AllReadyH.nil)
end
/-- One item is appended to a row that the call owns. -/
theorem wp_append_item {o : Oper} {a : Act} {w : World} {K : Act → World → Prop} {Q : Exit → Act → World → Prop} {ST T : TypeId} {i0 : TypeInfo} {z : Value} (hu : Tryz.prog.underlying ST = some (.slice T)) (hi : Tryz.prog.info? T = some i0) (hz : i0.zero = some z) (hz1 : i0.size = 11) (hz2 : i0.bytes = 128) (hz3 : z.cells.size = 11) (s x : Operand)
    (ho : o.op = .call { callee := .builtin .append, args := #[s, x], argTypes := #[ST, ST] }) (B : Nat) (hB : B ≤ w.heap.size) (r : Value) (acc : List IE) (hs : a.eval s = r) (hown : w.ownsRow B T 11 r acc.length (acc.flatMap icell))
    (g : Nat) (y : IE) (hx : a.eval x = .slice (some ⟨g, 0, none⟩) 1 1) (hv : ∀ j v, ([y].flatMap icell)[j]? = some v → w.cell? ((⟨g, 0, none⟩ : Addr).add j) = some v) (hone : ∀ u ∈ icell y, u.oneCell' = true) (hn : acc.length + 1 ≤ 1000001)
    (h : ∀ r' w', w'.ownsRow B T 11 r' (acc ++ [y]).length ((acc ++ [y]).flatMap icell) ∧ w.grownBy w' r.ownBlock → K (a.put o.dst r') w') : o.wp Tryz.prog a w K Q := by
  refine wp_append_own w s x ST ho B T i0 z 11 128 hu hi hz hz1 hz2 hz3 (by decide) r _ _ hs hown ⟨g, 0, none⟩ 1 1 ([y].flatMap icell) hx (by simp [icell]) hv (by simpa using hone) (by unfold maxLen; omega) (by omega) hB ?_
  intro v' w1 hown' hg _
  refine h v' w1 ⟨?_, hg⟩
  rw [List.flatMap_append, List.length_append]
  exact hown'
end Go.Proofs.YthlhopdlkkeohaaGreatDoor.O
