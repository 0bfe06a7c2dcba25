/- References as keys of a map; a set of them · The walk of coveredBy: the set of all references that the operations of some transactions name · All, place by place, as plain mathematics; operations of a region that turn the world · The walk of the program's All. -/
import Derived.Test.YthlhopdlkkeohaaGreatDoorThinsAll
import Derived.Maps.OwnSet
import Derived.DeepKeys4
import Derived.Test.YthlhopdlkkeohaaGreatDoorTMemAllAll
import Derived.Test.YthlhopdlkkeohaaGreatDoorKindsAll
/- References as keys of a map; a set of them · The walk of coveredBy: the set of all references that the operations of some transactions name · All, place by place, as plain mathematics; operations of a region that turn the world. -/
/- References as keys of a map; a set of them. -/
namespace Go.Proofs.YthlhopdlkkeohaaGreatDoor.O
open Go.RowKit Go.Maps

theorem laid_out9 : laidOutB Tryz.prog = true := by kernel_rfl
theorem keyLaw : Keyed Tryz.prog 70 := Keyed.of_law (deep_law_laid laid_out9 (m := 3) (by omega) (of_decide_eq_true (by kernel_rfl)) (by kernel_rfl) (by kernel_rfl))
/-- Numbers that a machine holds. -/
def goU (x : U) : Prop := (Lit.int .i64 x.1.1).wf = true ∧ (Lit.int .i64 x.1.2).wf = true ∧ (Lit.int .i64 x.2).wf = true
theorem keyT : Tryz.prog.keyType 70 = true := by kernel_rfl
theorem cells50 : Tryz.prog.cellsOf 70 = 3 := by kernel_rfl
theorem cells44 : Tryz.prog.cellsOf 53 = 2 := by kernel_rfl
theorem cells3 : Tryz.prog.cellsOf 3 = 1 := by kernel_rfl
theorem kl3 (d : Nat) {n : Int} (h : (Lit.int .i64 n).wf = true) : Tryz.prog.keyLits (d + 1) 3 [.int .i64 n] = some [.int .i64 n] := by
  unfold Program.keyLits
  simp [Tryz.underlying3, h]
theorem kl44 (d : Nat) {a b : Int} (h1 : (Lit.int .i64 a).wf = true) (h2 : (Lit.int .i64 b).wf = true) : Tryz.prog.keyLits (d + 2) 53 [.int .i64 a, .int .i64 b] = some [.int .i64 a, .int .i64 b] := by
  unfold Program.keyLits
  simp [Tryz.underlying53, cells44, cells3, kl3 d h1, kl3 d h2]
theorem kl50 (d : Nat) {a b c : Int} (h1 : (Lit.int .i64 a).wf = true) (h2 : (Lit.int .i64 b).wf = true) (h3 : (Lit.int .i64 c).wf = true) : Tryz.prog.keyLits (d + 3) 70 [.int .i64 a, .int .i64 b, .int .i64 c] = some [.int .i64 a, .int .i64 b, .int .i64 c] := by
  have e3 := kl3 (d + 1) h3
  have e44 := kl44 d h1 h2
  unfold Program.keyLits
  simp [Tryz.underlying70, cells50, cells44, cells3, e3, e44]
/-- What a reference reads as. -/
def keyL (x : U) : Lit := .string (keyBytes [.int .i64 x.1.1, .int .i64 x.1.2, .int .i64 x.2])
theorem keyL_of {x : U} (h : goU x) : keyOf Tryz.prog 70 (uV x) = some (keyL x) := by
  obtain ⟨h1, h2, h3⟩ := h
  have hf : (uV x).formed Tryz.prog 70 = true := by simp [Value.formed, Tryz.underlying70, cells50]
  obtain ⟨d, hd⟩ : ∃ d, Tryz.prog.types.size + 1 = d + 3 := ⟨Tryz.prog.types.size - 2, by have : 3 ≤ Tryz.prog.types.size := of_decide_eq_true (by kernel_rfl); omega⟩
  have e := kl50 d h1 h2 h3
  unfold keyOf
  simp only [Tryz.underlying70, keyT, hf, Bool.and_self, if_true, hd]
  rw [show (uV x).cells.toList = [.int .i64 x.1.1, .int .i64 x.1.2, .int .i64 x.2] from rfl, e]
  rfl
theorem keyL_inj {x y : U} (hx : goU x) (hy : goU y) (e : keyL x = keyL y) : x = y := by
  have h := keyLaw.inj (keyL_of hx) (by rw [e]; exact keyL_of hy)
  obtain ⟨⟨a, b⟩, c⟩ := x
  obtain ⟨⟨a', b'⟩, c'⟩ := y
  simp at h
  obtain ⟨rfl, rfl, rfl⟩ := h
  rfl
/-- The set of these references. -/
def refSet (L : List U) : DataW Unit := setOf (.agg []) (L.map keyL)
theorem refSet_nil : refSet [] = .map [] := rfl
theorem refSet_snoc (L : List U) (x : U) : refSet (L ++ [x]) = (refSet L).put (keyL x) (.agg []) := by
  unfold refSet
  rw [List.map_append]
  exact setOf_snoc _ _ _
theorem has_refSet {L : List U} (hL : ∀ x ∈ L, goU x) {x : U} (hx : goU x) : Maps.has (refSet L) (keyL x) = decide (x ∈ L) := by
  unfold refSet
  rw [has_setOf _ _ _ (fun l hl => by
    obtain ⟨y, hy, rfl⟩ := List.mem_map.1 hl
    exact keyLaw.key (keyL_of (hL y hy)))]
  rw [Bool.eq_iff_iff, List.any_eq_true, decide_eq_true_iff]
  constructor
  · rintro ⟨l, hl, hs⟩
    obtain ⟨y, hy, rfl⟩ := List.mem_map.1 hl
    have := keyL_inj (hL y hy) hx (WideAt.sameKey_eq hs)
    rw [← this]
    exact hy
  · intro h
    exact ⟨_, List.mem_map.2 ⟨x, h, rfl⟩, WideAt.sameKey_self (keyLaw.key (keyL_of hx))⟩
theorem zero78 (w : World) : (zeroValue 72).run Tryz.prog w = .ok (.agg #[]) w := by kernel_rfl
end Go.Proofs.YthlhopdlkkeohaaGreatDoor.O
/- The walk of coveredBy: the set of all references that the operations of some transactions name. -/
namespace Go.Proofs.YthlhopdlkkeohaaGreatDoor.O
open Go.RowKit Go.Maps

/-- What all operations of these transactions name. -/
def namesO (os : List Os.Op) : List U := os.flatMap (·.l)
def namesT (ts : List Tx.Txn) : List U := ts.flatMap fun t => namesO t.ops
theorem namesO_step (os : List Os.Op) {k : Nat} (h : k < os.length) : namesO (os.take (k + 1)) = namesO (os.take k) ++ os[k].l := by
  unfold namesO
  rw [List.take_succ_eq_append_getElem h, List.flatMap_append]
  simp
theorem namesT_step (ts : List Tx.Txn) {k : Nat} (h : k < ts.length) : namesT (ts.take (k + 1)) = namesT (ts.take k) ++ namesO ts[k].ops := by
  unfold namesT
  rw [List.take_succ_eq_append_getElem h, List.flatMap_append]
  simp
theorem namesT_zero (ts : List Tx.Txn) : namesT (ts.take 0) = [] := rfl
theorem namesO_zero (os : List Os.Op) : namesO (os.take 0) = [] := rfl
theorem refsIn.get {w : World} {ao : Option Addr} {n cap : Nat} {l : List U} (h : refsIn w (.slice ao n cap) l) {k : Nat} (hk : k < l.length) : ∃ ad, ao = some ad ∧ CAt w (ad.add (k * 3)) l[k] := by
  obtain ⟨ao', c, e, _, _, hc⟩ := h
  cases e
  exact hc k hk
theorem namesO_le (os : List Os.Op) (j : Nat) : (namesO (os.take j)).length ≤ (namesO os).length := by
  have h : namesO os = namesO (os.take j) ++ namesO (os.drop j) := by
    unfold namesO
    rw [← List.flatMap_append, List.take_append_drop]
  rw [h, List.length_append]
  omega
theorem namesT_le (ts : List Tx.Txn) (j : Nat) : (namesT (ts.take j)).length ≤ (namesT ts).length := by
  have h : namesT ts = namesT (ts.take j) ++ namesT (ts.drop j) := by
    unfold namesT
    rw [← List.flatMap_append, List.take_append_drop]
  rw [h, List.length_append]
  omega
theorem namesO_many {B : Nat} : ∀ {os : List Os.Op}, (∀ o ∈ os, o.l.length ≤ B) → (namesO os).length ≤ os.length * B
  | [], _ => by simp [namesO]
  | o :: r, h => by
    have h1 := namesO_many (os := r) fun x hx => h x (by simp [hx])
    have h2 := h o (by simp)
    have e : namesO (o :: r) = o.l ++ namesO r := by simp [namesO]
    rw [e, List.length_append, List.length_cons, Nat.succ_mul]
    omega
theorem namesT_many {B : Nat} : ∀ {ts : List Tx.Txn}, (∀ t ∈ ts, (namesO t.ops).length ≤ B) → (namesT ts).length ≤ ts.length * B
  | [], _ => by simp [namesT]
  | t :: r, h => by
    have h1 := namesT_many (ts := r) fun x hx => h x (by simp [hx])
    have h2 := h t (by simp)
    have e : namesT (t :: r) = namesO t.ops ++ namesT r := by simp [namesT]
    rw [e, List.length_append, List.length_cons, Nat.succ_mul]
    omega
theorem mem_namesT {ts : List Tx.Txn} {x : U} : x ∈ namesT ts ↔ ∃ t ∈ ts, ∃ o ∈ t.ops, x ∈ o.l := by simp [namesT, namesO]
/-- Few operations, which name few, of numbers that a machine holds. -/
def Few13 (ts : List Tx.Txn) : Prop := ∀ t ∈ ts, t.ops.length ≤ 1000 ∧ ∀ o ∈ t.ops, o.l.length ≤ 1000 ∧ ∀ x ∈ o.l, goU x

theorem Few13.many {ts : List Tx.Txn} (h : Few13 ts) (hn : ts.length ≤ 1000) : (namesT ts).length ≤ 1000000000 := by
  have h1 := namesT_many (B := 1000000) (ts := ts) fun t ht => by
    obtain ⟨h2, h3⟩ := h t ht
    have h4 := namesO_many (B := 1000) (os := t.ops) fun o ho => (h3 o ho).1
    exact Nat.le_trans h4 (Nat.mul_le_mul_right 1000 h2)
  exact Nat.le_trans h1 (Nat.mul_le_mul_right 1000000 hn)
set_option maxRecDepth 20000 in
set_option maxHeartbeats 4000000 in
theorem coveredBy_any (v : Value) (ts : List Tx.Txn) (w : World) (hv : txsIn w v ts) (hn : ts.length ≤ 1000) (hf : Few13 ts) :
    Calls Tryz.prog 28 #[v] w fun e w' => e = .returned (.map (some w.heap.size)) ∧ (∃ n, n ≤ 1000000000 ∧ w'.ownsMap Tryz.prog 70 unitElem w.heap.size n (refSet (namesT ts))) ∧ Below w.heap.size w w' := by
  have hmm := @run_makeMap Tryz.prog
  obtain ⟨N9, hN9⟩ : ∃ N, (namesT ts).length = N := ⟨_, rfl⟩
  have hN9b : N9 ≤ 1000000000 := by rw [← hN9]; exact hf.many hn
  have HN9 : Hid ((namesT ts).length = N9) := hN9
  clear hN9
  obtain ⟨ao, cap, rfl, _, _, _⟩ := id hv
  obtain ⟨n, hn0⟩ : ∃ n, n = ts.length := ⟨_, rfl⟩
  have HN : Hid (n = ts.length) := hn0
  rw [← hn0] at hv hn ⊢
  have HV : Hid (txsIn w (.slice ao n cap) ts) := hv
  have HF : Hid (Few13 ts) := hf
  clear hn0 hv hf
  obtain ⟨W0, hW0⟩ : ∃ W0, W0 = w.alloc (.map #[] 0) := ⟨_, rfl⟩
  have B0 : Below w.heap.size w W0 := by rw [hW0]; exact below_new _ _
  have M0 : W0.ownsMap Tryz.prog 70 (unitElem (H := Unit)) w.heap.size 0 (refSet []) := by rw [hW0]; exact World.ownsMap_made _ _ _ _
  have s0 : w.heap.size + 1 ≤ W0.heap.size := by rw [hW0]; simp
  go_enter Tryz.func28, Tryz.ntmps28
  go_wp2
  rw [← hW0]
  clear hW0
  go_loopw [5, 7, 9, 13] (fun _ _ _ i wr => ∃ (k : Nat) (L : List U), k ≤ n ∧ i = .int .i64 k ∧ Hid (L = namesT (ts.take k)) ∧ wr.ownsMap Tryz.prog 70 (unitElem (H := Unit)) w.heap.size L.length (refSet L) ∧ Below w.heap.size w wr ∧ w.heap.size + 1 ≤ wr.heap.size) (fun _ _ _ i _ => n - (intOf i).toNat)
  case atStart => exact ⟨0, [], by omega, rfl, namesT_zero ts, M0, B0, s0⟩
  case round =>
    clear M0 s0 B0
    obtain ⟨k, L, hk, rfl, HL, hM, hbw, hsz⟩ := hrel
    by_cases hlt : k < n
    · have hkx : k < ts.length := by rw [← HN.out]; exact hlt
      obtain ⟨ad, ov, rfl, hA, ho⟩ := HV.out.get hkx
      obtain ⟨c0, c1, c2, c3, c4, c5⟩ := hA.on hbw
      have hfew := HF.out _ (List.getElem_mem hkx)
      have HS : Hid (namesT (ts.take (k + 1)) = L ++ namesO ts[k].ops) := by
        have h := namesT_step ts hkx
        rw [← HL.out] at h
        exact h
      have F1 : L.length + (namesO ts[k].ops).length ≤ N9 := by
        have h := namesT_le ts (k + 1)
        rw [HS.out, List.length_append, HN9.out] at h
        exact h
      obtain ⟨oo, oc, rfl⟩ := ho.slice
      generalize ts[k] = t at *
      obtain ⟨m, hm⟩ : ∃ m, m = t.ops.length := ⟨_, rfl⟩
      have HM : Hid (m = t.ops.length) := hm
      rw [← hm] at ho c5
      have hm1 : m ≤ 1000 := by rw [hm]; exact hfew.1
      have HO : Hid (opsIn w (.slice oo m oc) t.ops) := ho
      have HW : Hid (∀ o ∈ t.ops, o.l.length ≤ 1000 ∧ ∀ x ∈ o.l, goU x) := hfew.2
      clear hm ho hfew hA HL
      obtain ⟨W1, hW1⟩ : ∃ W1, W1 = wr.alloc (txO t (.slice oo m oc)) := ⟨_, rfl⟩
      have B1 : Below wr.heap.size wr W1 := by rw [hW1]; exact below_new _ _
      have M1 : W1.ownsMap Tryz.prog 70 (unitElem (H := Unit)) w.heap.size L.length (refSet L) := by rw [hW1]; exact hM.alloc _
      have s1 : w.heap.size + 1 ≤ W1.heap.size := by rw [hW1]; simp; omega
      go_wp2
      rw [← hW1]
      clear hW1
      go_loopw [7, 9, 20] (fun _ _ i wr => ∃ (j : Nat) (L2 : List U), j ≤ m ∧ i = .int .i64 j ∧ Hid (L2 = L ++ namesO (t.ops.take j)) ∧ wr.ownsMap Tryz.prog 70 (unitElem (H := Unit)) w.heap.size L2.length (refSet L2) ∧ Below w.heap.size w wr ∧ w.heap.size + 1 ≤ wr.heap.size) (fun _ _ i _ => m - (intOf i).toNat)
      case atStart => exact ⟨0, L, by omega, rfl, show L = L ++ namesO (t.ops.take 0) from by rw [namesO_zero, List.append_nil], M1, hbw.trans (B1.mono (by omega)), s1⟩
      case round =>
        clear M1 s1 B1 hM hbw hsz c0 c1 c2 c3 c4 c5
        obtain ⟨j, L2, hj, rfl, HL2, hM, hbw, hsz⟩ := hrel
        by_cases hlt2 : j < m
        · have hjx : j < t.ops.length := by rw [← HM.out]; exact hlt2
          obtain ⟨ad2, pv, sv, rfl, hA, _, hs⟩ := HO.out.get hjx
          obtain ⟨d0, d1, d2, d3, d4, d5, d6⟩ := hA.on hbw
          have hfew := HW.out _ (List.getElem_mem hjx)
          have HS2 : Hid (L ++ namesO (t.ops.take (j + 1)) = L2 ++ t.ops[j].l) := by
            have h := namesO_step t.ops hjx
            have h2 : L ++ namesO (t.ops.take (j + 1)) = L2 ++ t.ops[j].l := by rw [h, HL2.out, List.append_assoc]
            exact h2
          have F2 : L2.length + (t.ops[j].l).length ≤ N9 := by
            have h := namesO_le t.ops (j + 1)
            have h2 := congrArg List.length HS2.out
            rw [List.length_append, List.length_append] at h2
            omega
          obtain ⟨so, sn, sc, rfl⟩ := refs_slice hs
          obtain rfl := hs.len
          generalize t.ops[j] = o at *
          obtain ⟨q, hq⟩ : ∃ q, q = o.l.length := ⟨_, rfl⟩
          have HQ : Hid (q = o.l.length) := hq
          rw [← hq] at hs d6 F2
          have hq1 : q ≤ 1000 := by rw [hq]; exact hfew.1
          have HR : Hid (refsIn w (.slice so q sc) o.l) := hs
          have HG : Hid (∀ x ∈ o.l, goU x) := hfew.2
          obtain ⟨pa, pn, pc, rfl⟩ : ∃ a n c, pv = .slice a n c := by
            rename_i hp
            exact strs_slice hp
          clear hq hs hfew hA HL2
          obtain ⟨W1, hW1⟩ : ∃ W1, W1 = wr.alloc (oO o (.slice pa pn pc) (.slice so q sc)) := ⟨_, rfl⟩
          have B1 : Below wr.heap.size wr W1 := by rw [hW1]; exact below_new _ _
          have M1 : W1.ownsMap Tryz.prog 70 (unitElem (H := Unit)) w.heap.size L2.length (refSet L2) := by rw [hW1]; exact hM.alloc _
          have s1 : w.heap.size + 1 ≤ W1.heap.size := by rw [hW1]; simp; omega
          go_wp2
          rw [← hW1]
          clear hW1
          go_loopw [9, 27] (fun _ i wr => ∃ (r : Nat) (L3 : List U), r ≤ q ∧ i = .int .i64 r ∧ Hid (L3 = L2 ++ o.l.take r) ∧ wr.ownsMap Tryz.prog 70 (unitElem (H := Unit)) w.heap.size L3.length (refSet L3) ∧ Below w.heap.size w wr ∧ w.heap.size + 1 ≤ wr.heap.size) (fun _ i _ => q - (intOf i).toNat)
          case atStart => exact ⟨0, L2, by omega, rfl, show L2 = L2 ++ o.l.take 0 from by rw [List.take_zero, List.append_nil], M1, hbw.trans (B1.mono (by omega)), s1⟩
          case round =>
            clear M1 s1 B1 hM hbw hsz d0 d1 d2 d3 d4 d5 d6
            obtain ⟨r, L3, hr, rfl, HL3, hM, hbw, hsz⟩ := hrel
            by_cases hlt3 : r < q
            · have hrx : r < o.l.length := by rw [← HQ.out]; exact hlt3
              obtain ⟨ad3, rfl, hA⟩ := HR.out.get hrx
              obtain ⟨e0, e1, e2⟩ := hA.on hbw
              have hg := HG.out _ (List.getElem_mem hrx)
              have HS3 : Hid (L2 ++ o.l.take (r + 1) = L3 ++ [o.l[r]]) := by
                have h : L2 ++ o.l.take (r + 1) = L3 ++ [o.l[r]] := by rw [List.take_succ_eq_append_getElem hrx, HL3.out, List.append_assoc]
                exact h
              have F3 : L3.length + 1 ≤ N9 := by
                have h2 := congrArg List.length HL3.out
                rw [List.length_append, List.length_take] at h2
                omega
              generalize o.l[r] = x at *
              have hkey := keyL_of hg
              clear hA HL3
              go_wp2_with (first
                | (at_mapUpdate; refine wpList_mapUpdate_own _ rfl _ _ _ 67 rfl 70 72 keyLaw Tryz.underlying67 (unitElem (H := Unit)) w.heap.size L3.length _ rfl (hM.alloc _) (by unfold maxLen; omega) _ _ _ rfl rfl hkey _ [] unitElem_mk ?_; intro w1 hM1 hg1)
                | go_in)
              have z1 := hg1.size
              simp at z1
              go_roundw
              case rel =>
                refine ⟨r + 1, L3 ++ [x], by omega, by go_num, HS3.out.symm, ?_, ?_, by omega⟩
                · rw [refSet_snoc, List.length_append]
                  exact hM1
                · exact (hbw.alloc (by omega) _).grown hg1 (by simp; omega) (fun g hg => by cases hg; exact Nat.le_refl _)
              case measure => simp [intOf]; omega
            · obtain rfl : r = q := by omega
              have HE : Hid (L3 = L ++ namesO (t.ops.take (j + 1))) := by
                have h := HL3.out
                rw [HQ.out, List.take_length] at h
                have h2 := h.trans HS2.out.symm
                exact h2
              go_wp2
              go_roundw
              case rel => exact ⟨j + 1, L3, by omega, by go_num, HE, hM, hbw, hsz⟩
              case measure => simp [intOf]; omega
        · obtain rfl : j = m := by omega
          have HE : Hid (L2 = namesT (ts.take (k + 1))) := by
            have h := HL2.out
            rw [HM.out, List.take_length] at h
            have h2 := h.trans HS.out.symm
            exact h2
          go_wp2
          go_roundw
          case rel => exact ⟨k + 1, L2, by omega, by go_num, HE, hM, hbw, hsz⟩
          case measure => simp [intOf]; omega
    · obtain rfl : k = n := by omega
      have HE : Hid (L = namesT ts) := by
        have h := HL.out
        rw [HN.out, List.take_length] at h
        exact h
      go_wp2
      go_ret
      exact ⟨rfl, ⟨L.length, by rw [HE.out, HN9.out]; exact hN9b, by rw [← HE.out]; exact hM⟩, hbw⟩
end Go.Proofs.YthlhopdlkkeohaaGreatDoor.O
/- All, place by place, as plain mathematics; operations of a region that turn the world. -/
namespace Go.Proofs.YthlhopdlkkeohaaGreatDoor.O
open Go.RowKit

/-- The items of the first operations of a transaction. -/
def itTo (cov : U → Bool) (sn : D → Bool) (t : Tx.Txn) (j : Nat) : List Lv.Item := if sn t.d = true then Lv.items cov t.d t.t 0 (t.ops.take j) else []
theorem itTo_zero (cov : U → Bool) (sn : D → Bool) (t : Tx.Txn) : itTo cov sn t 0 = [] := by simp [itTo, Lv.items]
theorem itTo_hit {cov : U → Bool} {sn : D → Bool} {t : Tx.Txn} {j : Nat} (hj : j < t.ops.length) (hs : sn t.d = true) (ha : Lv.able t.ops[j].k = true) (hc : cov (t.d, (j : Int)) = false) : itTo cov sn t (j + 1) = itTo cov sn t j ++ [⟨(t.d, (j : Int)), t.ops[j], t.t⟩] := by
  unfold itTo
  rw [if_pos hs, if_pos hs, Lv.items_step _ _ _ _ hj, if_pos ⟨ha, hc⟩]
theorem itTo_miss {cov : U → Bool} {sn : D → Bool} {t : Tx.Txn} {j : Nat} (hj : j < t.ops.length) (h : ¬ (sn t.d = true ∧ Lv.able t.ops[j].k = true ∧ cov (t.d, (j : Int)) = false)) : itTo cov sn t (j + 1) = itTo cov sn t j := by
  unfold itTo
  by_cases hs : sn t.d = true
  · rw [if_pos hs, if_pos hs, Lv.items_step _ _ _ _ hj, if_neg fun q => h ⟨hs, q.1, q.2⟩, List.append_nil]
  · rw [if_neg hs, if_neg hs]
theorem itTo_end {cov : U → Bool} {sn : D → Bool} {t : Tx.Txn} {j : Nat} (hj : ¬ j < t.ops.length) : itTo cov sn t j = Lv.itemsOf cov sn t := by
  unfold itTo Lv.itemsOf
  rw [List.take_of_length_le (by omega)]
theorem allBy_le (cov : U → Bool) (sn : D → Bool) (ts : List Tx.Txn) (k : Nat) : (Lv.allBy cov sn (ts.take k)).length ≤ (Lv.allBy cov sn ts).length := by
  have h : Lv.allBy cov sn ts = Lv.allBy cov sn (ts.take k) ++ Lv.allBy cov sn (ts.drop k) := by
    unfold Lv.allBy
    rw [← List.flatMap_append, List.take_append_drop]
  rw [h, List.length_append]
  omega
theorem itTo_le (cov : U → Bool) (sn : D → Bool) (t : Tx.Txn) (j : Nat) : (itTo cov sn t j).length ≤ (Lv.itemsOf cov sn t).length := by
  unfold itTo Lv.itemsOf
  split
  · have h : Lv.items cov t.d t.t 0 t.ops = Lv.items cov t.d t.t 0 (t.ops.take j) ++ Lv.items cov t.d t.t (0 + (t.ops.take j).length) (t.ops.drop j) := by
      rw [← Lv.items_append, List.take_append_drop]
    rw [h, List.length_append]
    omega
  · simp
theorem allBy_zero (cov : U → Bool) (sn : D → Bool) (ts : List Tx.Txn) : Lv.allBy cov sn (ts.take 0) = [] := by simp [Lv.allBy]
/-- Of those that count all are asked. -/
theorem allBy_filter (cov : U → Bool) (sn : D → Bool) : ∀ ts : List Tx.Txn, Lv.allBy cov (fun _ => true) (ts.filter fun t => sn t.d) = Lv.allBy cov sn ts
  | [] => rfl
  | t :: r => by
    have ih := allBy_filter cov sn r
    have e : ∀ s q, Lv.allBy cov s (t :: q) = Lv.itemsOf cov s t ++ Lv.allBy cov s q := fun s q => by simp [Lv.allBy]
    cases h : sn t.d with
    | true =>
      rw [List.filter_cons_of_pos (by simpa using h), e, e, ih]
      congr 1
      simp [Lv.itemsOf, h]
    | false =>
      rw [List.filter_cons_of_neg (by simp [h]), e, ih]
      simp [Lv.itemsOf, h]
theorem covered_filter (ts : List Tx.Txn) (sn : D → Bool) (x : U) : decide (x ∈ namesT (ts.filter fun t => sn t.d)) = Lv.covered ts sn x := by
  rw [Bool.eq_iff_iff, decide_eq_true_iff, mem_namesT]
  unfold Lv.covered Lv.names
  rw [List.any_eq_true]
  constructor
  · rintro ⟨t, ht, o, ho, hx⟩
    have := List.mem_filter.1 ht
    refine ⟨t, this.1, ?_⟩
    rw [Bool.and_eq_true]
    exact ⟨this.2, List.any_eq_true.2 ⟨o, ho, decide_eq_true hx⟩⟩
  · rintro ⟨t, ht, h⟩
    rw [Bool.and_eq_true] at h
    obtain ⟨o, ho, hx⟩ := List.any_eq_true.1 h.2
    exact ⟨t, List.mem_filter.2 ⟨ht, h.1⟩, o, ho, of_decide_eq_true hx⟩
/-- An item more in a row. -/
theorem new_item (w : World) (x : IE) (T : TypeId) : ∀ j v, ([x].flatMap icell)[j]? = some v → (w.alloc (.cells (icell x).toArray T)).cell? ((⟨w.heap.size, 0, none⟩ : Addr).add j) = some v := fun j v hv => by
  refine new_cells w (icell x) T j v ?_
  simpa using hv

theorem heap_lt9 {w : World} {b : Nat} {o : Obj} (h : w.heap[b]? = some o) : b < w.heap.size := (Array.getElem?_eq_some_iff.1 h).1
/-- A block of another type is not the row's. -/
theorem own_ne_block {w : World} {B s n b : Nat} {e e' : TypeId} {v : Value} {xs : List Value} {cs : Array Value} (h : w.ownsRow B e s v n xs) (hb : w.heap[b]? = some (.cells cs e' (0, 0))) (he : e' ≠ e) : some b ≠ v.ownBlock := by
  rcases h.2 with ⟨rfl, _⟩ | ⟨k, cap, cur, rfl, _, hk, _⟩
  · intro q; cases q
  · intro q
    have e1 : b = k := Option.some.inj q
    subst e1
    rw [hb] at hk
    have := Option.some.inj hk
    injection this with _ e3 _
    exact he e3
section
variable {P : Program} {md : Region.Mode} {ops : Array Oper} {Q : Exit → Act → World → Prop} {S : World → Prop} {i : Nat} {o : Oper} {v : Value} {fuel : Nat} {listed : Array Bool} {a : Act} {w w' : World}
/-- An operation that turns the world. -/
theorem held_run (ho : ops[i]? = some o) (hr : Region.ready md ops listed = [i]) (hw : Region.wanted o (yielded ops a.tmps) = true) (he : (execOp a.eval o).run P w = .ok (.value v) w') (hS : S w')
    (h : wpAnyH P md ops Q S fuel (listed.setIfInBounds i true) (a.put o.dst v) w') : wpAnyH P md ops Q S (fuel + 1) listed a w :=
  wpAnyH_ready hr (by simp) (AllReadyH.cons ho (fun K hK => by
    rw [if_pos hw, Oper.wp, he]
    exact hK.out _ _ hS (fun _ => h)) AllReadyH.nil)
/-- An operation that is only told of. -/
theorem held_wp {R : Value → World → Prop} (ho : ops[i]? = some o) (hr : Region.ready md ops listed = [i]) (hw : Region.wanted o (yielded ops a.tmps) = true)
    (he : ∀ (K : Act → World → Prop) (Q : Exit → Act → World → Prop), (∀ v' w', R v' w' → K (a.put o.dst v') w') → o.wp P a w K Q)
    (h : ∀ v' w', R v' w' → S w' ∧ wpAnyH P md ops Q S fuel (listed.setIfInBounds i true) (a.put o.dst v') w') : wpAnyH P md ops Q S (fuel + 1) listed a w :=
  wpAnyH_ready hr (by simp) (AllReadyH.cons ho (fun K hK => by
    rw [if_pos hw]
    exact he _ _ fun v' w' hR => hK.out _ _ (h v' w' hR).1 (fun _ => (h v' w' hR).2)) AllReadyH.nil)
end
/-- One item is appended to a row that the call owns. -/
theorem wp_append_item {o : Oper} {a : Act} {w : World} {K : Act → World → Prop} {Q : Exit → Act → World → Prop} {ST T : TypeId} {i0 : TypeInfo} {z : Value} (hu : Tryz.prog.underlying ST = some (.slice T)) (hi : Tryz.prog.info? T = some i0) (hz : i0.zero = some z) (hz1 : i0.size = 11) (hz2 : i0.bytes = 128) (hz3 : z.cells.size = 11) (s x : Operand)
    (ho : o.op = .call { callee := .builtin .append, args := #[s, x], argTypes := #[ST, ST] }) (B : Nat) (hB : B ≤ w.heap.size) (r : Value) (acc : List IE) (hs : a.eval s = r) (hown : w.ownsRow B T 11 r acc.length (acc.flatMap icell))
    (g : Nat) (y : IE) (hx : a.eval x = .slice (some ⟨g, 0, none⟩) 1 1) (hv : ∀ j v, ([y].flatMap icell)[j]? = some v → w.cell? ((⟨g, 0, none⟩ : Addr).add j) = some v) (hone : ∀ u ∈ icell y, u.oneCell' = true) (hn : acc.length + 1 ≤ 1000001)
    (h : ∀ r' w', w'.ownsRow B T 11 r' (acc ++ [y]).length ((acc ++ [y]).flatMap icell) ∧ w.grownBy w' r.ownBlock → K (a.put o.dst r') w') : o.wp Tryz.prog a w K Q := by
  refine wp_append_own w s x ST ho B T i0 z 11 128 hu hi hz hz1 hz2 hz3 (by decide) r _ _ hs hown ⟨g, 0, none⟩ 1 1 ([y].flatMap icell) hx (by simp [icell]) hv (by simpa using hone) (by unfold maxLen; omega) (by omega) hB ?_
  intro v' w1 hown' hg _
  refine h v' w1 ⟨?_, hg⟩
  rw [List.flatMap_append, List.length_append]
  exact hown'
end Go.Proofs.YthlhopdlkkeohaaGreatDoor.O
/- The walk of the program's All. -/
namespace Go.Proofs.YthlhopdlkkeohaaGreatDoor.O
open Go.RowKit Go.Maps

theorem leaves_any (k : Int) (w : World) : Calls Tryz.prog 29 #[.int .i64 k] w fun e w' => e = .returned (.bool (Lv.able k)) ∧ w' = w := by
  by_cases h1 : k = 1
  · subst h1
    go_enter Tryz.func29, Tryz.ntmps29
    go_wp2
    go_ret
    exact ⟨rfl, rfl⟩
  by_cases h2 : k = 2
  · subst h2
    go_enter Tryz.func29, Tryz.ntmps29
    go_wp2
    go_ret
    exact ⟨rfl, rfl⟩
  by_cases h3 : k = 3
  · subst h3
    go_enter Tryz.func29, Tryz.ntmps29
    go_wp2
    go_ret
    exact ⟨rfl, rfl⟩
  have e : Lv.able k = false := decide_eq_false (by omega)
  have e1 : (k == 1) = false := beq_eq_false_iff_ne.2 h1
  have e2 : (k == 2) = false := beq_eq_false_iff_ne.2 h2
  have e3 : (k == 3) = false := beq_eq_false_iff_ne.2 h3
  rw [e]
  go_enter Tryz.func29, Tryz.ntmps29
  go_wp2
  go_ret
  exact ⟨rfl, rfl⟩
theorem map_on {w w' : World} {b n : Nat} {D : DataW Unit} (h : w.ownsMap Tryz.prog 70 unitElem b n D) (hb : Below w.heap.size w w') : w'.ownsMap Tryz.prog 70 unitElem b n D :=
  h.kept (row := none) ⟨hb.os, hb.tape, hb.output, hb.size, fun k hk _ => hb.block k hk⟩ (by simp)
theorem TAt.row {w : World} {b : Nat} {t : Tx.Txn} {ov : Value} (h : w.heap[b]? = some (txO t ov)) : TAt w b t ov :=
  ⟨by rw [cell_of_row _ b 0 _ 56 (0, 0) h]; rfl, by rw [cell_of_row _ b 1 _ 56 (0, 0) h]; rfl, by rw [cell_of_row _ b 2 _ 56 (0, 0) h]; rfl, by rw [cell_of_row _ b 3 _ 56 (0, 0) h]; rfl, by rw [cell_of_row _ b 4 _ 56 (0, 0) h]; rfl, by rw [cell_of_row _ b 5 _ 56 (0, 0) h]; rfl⟩
theorem txsE_own9 {w : World} {v : Value} {xs : List TE} (h : txsE w v xs) : txsIn w v (xs.map (·.1)) := by
  obtain ⟨ao, cap, rfl, hm, h0, hc, ho⟩ := h
  refine ⟨ao, cap, by rw [List.length_map], by rw [List.length_map]; exact hm, h0, fun k hk => ?_⟩
  have hk' : k < xs.length := by simpa using hk
  obtain ⟨ad, e, h1, h2⟩ := (show txsE w (.slice ao xs.length cap) xs from ⟨ao, cap, rfl, hm, h0, hc, ho⟩).get hk'
  refine ⟨ad, xs[k].2, e, ?_, by simpa using h2⟩
  have q : ∀ i, 0 < i → (ad.add (k * 6)).add i = ⟨(ad.add (k * 6)).block, (ad.add (k * 6)).off + i, none⟩ := fun i hi => by unfold Addr.add; rw [if_neg (by omega)]
  simp only [List.getElem_map]
  refine ⟨?_, ?_, ?_, ?_, ?_, ?_⟩
  · have h := h1 0 _ rfl
    rwa [show (ad.add (k * 6)).add 0 = ad.add (k * 6) by unfold Addr.add; simp] at h
  · rw [← q 1 (by omega)]; exact h1 1 _ rfl
  · rw [← q 2 (by omega)]; exact h1 2 _ rfl
  · rw [← q 3 (by omega)]; exact h1 3 _ rfl
  · rw [← q 4 (by omega)]; exact h1 4 _ rfl
  · rw [← q 5 (by omega)]; exact h1 5 _ rfl
theorem row_on {w w' : World} {b : Nat} {o : Obj} (h : w.heap[b]? = some o) (hb : Below w.heap.size w w') : w'.heap[b]? = some o := (hb.block b (heap_lt9 h)).trans h
/-- One item is appended, in a region that draws no order. -/
theorem append_item {ops : Array Oper} {rest : List Oper} {o : Oper} {a : Act} {w : World} {Q : Exit → Act → World → Prop} {ST T : TypeId} {i0 : TypeInfo} {z : Value} (hgd : o.guard = none) (hu : Tryz.prog.underlying ST = some (.slice T)) (hi : Tryz.prog.info? T = some i0) (hz : i0.zero = some z) (hz1 : i0.size = 11) (hz2 : i0.bytes = 128) (hz3 : z.cells.size = 11) (s x : Operand)
    (ho : o.op = .call { callee := .builtin .append, args := #[s, x], argTypes := #[ST, ST] }) (B : Nat) (hB : B ≤ w.heap.size) (r : Value) (acc : List IE) (hs : a.eval s = r) (hown : w.ownsRow B T 11 r acc.length (acc.flatMap icell))
    (g : Nat) (y : IE) (hx : a.eval x = .slice (some ⟨g, 0, none⟩) 1 1) (hv : ∀ j v, ([y].flatMap icell)[j]? = some v → w.cell? ((⟨g, 0, none⟩ : Addr).add j) = some v) (hone : ∀ u ∈ icell y, u.oneCell' = true) (hn : acc.length + 1 ≤ 1000001)
    (h : ∀ r' w', w'.ownsRow B T 11 r' (acc ++ [y]).length ((acc ++ [y]).flatMap icell) → w.grownBy w' r.ownBlock → wpList Tryz.prog ops Q rest (a.put o.dst r') w') : wpList Tryz.prog ops Q (o :: rest) a w :=
  wpList_plain hgd fun _ hK => wp_append_item hu hi hz hz1 hz2 hz3 s x ho B hB r acc hs hown g y hx hv hone hn fun r' w' ⟨h1, h2⟩ => hK _ _ (h r' w' h1 h2)

set_option maxRecDepth 20000 in
set_option maxHeartbeats 2000000 in
theorem all_any (v vu : Value) (ts : List Tx.Txn) (u : List U) (w : World) (hv : txsIn w v ts) (hu : T.cntsIn w vu u) (hn : ts.length ≤ 1000) (hf : Few13 ts) (hg : ∀ t ∈ ts, (Lit.int .i64 t.d.1).wf = true ∧ (Lit.int .i64 t.d.2).wf = true) (hun : u.length ≤ 1000000) (hp : Ct.Std u) :
    Calls Tryz.prog 9 #[v, vu] w fun e w' => ∃ r xs, e = .returned r ∧ itsE w' r xs ∧ xs.map (·.1) = Lv.all ts (seenD u) ∧ Below w.heap.size w w' := by
  obtain ⟨xs0, hxs0, hvE⟩ := txsE_of hv
  have HC := counting_any v vu xs0 u w hvE hu (by have h := congrArg List.length hxs0; rw [List.length_map] at h; omega) hun hp
  show Calls Tryz.prog 9 _ w fun e w' => ∃ r xs, e = .returned r ∧ itsE w' r xs ∧ xs.map (·.1) = Lv.allBy (Lv.covered ts (seenD u)) (seenD u) ts ∧ Below w.heap.size w w'
  rw [← allBy_filter]
  generalize hsn : seenD u = sn at *
  obtain ⟨ts', hts'⟩ : ∃ ts', ts' = ts.filter fun t => sn t.d := ⟨_, rfl⟩
  have hmap : (xs0.filter fun x => sn x.1.d).map (·.1) = ts' := by
    rw [hts', ← hxs0, List.filter_map]
    rfl
  have hmem : ∀ t ∈ ts', t ∈ ts := fun t ht => by rw [hts'] at ht; exact (List.mem_filter.1 ht).1
  have hn' : ts'.length ≤ 1000 := by rw [hts']; exact Nat.le_trans (List.length_filter_le _ _) hn
  have hf' : Few13 ts' := fun t ht => hf t (hmem t ht)
  have hcov : Lv.covered ts sn = fun x => decide (x ∈ namesT ts') := funext fun x => by rw [hts']; exact (covered_filter ts sn x).symm
  rw [← hts', hcov]
  have HG : Hid (∀ t ∈ ts', (Lit.int .i64 t.d.1).wf = true ∧ (Lit.int .i64 t.d.2).wf = true) := fun t ht => hg t (hmem t ht)
  have HNL : Hid (∀ x ∈ namesT ts', goU x) := fun x hx => by
    obtain ⟨t, ht, o, ho, hxo⟩ := mem_namesT.1 hx
    exact ((hf' t ht).2 o ho).2 x hxo
  have HCB : Hid (∀ r W, txsIn W r ts' → Calls Tryz.prog 28 #[r] W fun e w' => e = .returned (.map (some W.heap.size)) ∧ (∃ n, n ≤ 1000000000 ∧ w'.ownsMap Tryz.prog 70 unitElem W.heap.size n (refSet (namesT ts'))) ∧ Below W.heap.size W w') := fun r W hr => coveredBy_any r ts' W hr hn' hf'
  have HTX : Hid (∀ r W, txsE W r (xs0.filter fun x => sn x.1.d) → txsIn W r ts') := fun r W hr => by
    have h := txsE_own9 hr
    rw [hmap] at h
    exact h
  have HF : Hid (∀ t ∈ ts', t.ops.length ≤ 1000) := fun t ht => (hf' t ht).1
  obtain ⟨N9, hN9⟩ : ∃ N, (Lv.allBy (fun x => decide (x ∈ namesT ts')) (fun _ => true) ts').length = N := ⟨_, rfl⟩
  have hN9b : N9 ≤ 1000000 := by
    rw [← hN9]
    exact Nat.le_trans (Lv.allBy_len (B := 1000) fun t ht => (hf' t ht).1) (Nat.mul_le_mul_right 1000 hn')
  have HN9 : Hid ((Lv.allBy (fun x => decide (x ∈ namesT ts')) (fun _ => true) ts').length = N9) := hN9
  obtain ⟨cov, hcv⟩ : ∃ cov : U → Bool, cov = fun x => decide (x ∈ namesT ts') := ⟨_, rfl⟩
  have HCV : Hid (∀ x, cov x = decide (x ∈ namesT ts')) := fun x => by rw [hcv]
  rw [← hcv] at HN9 ⊢
  generalize (xs0.filter fun x => sn x.1.d) = xs' at *
  obtain ⟨L, hL⟩ : ∃ L, L = namesT ts' := ⟨_, rfl⟩
  rw [← hL] at HCB HNL HCV
  clear hv hvE hxs0 hn hf hg hp hu hun hsn hmap hmem hf' hcov hts' hN9 hcv hL
  obtain ⟨n, hn0⟩ : ∃ n, n = ts'.length := ⟨_, rfl⟩
  have HN : Hid (n = ts'.length) := hn0
  have hnl := hn'
  rw [← hn0] at hn'
  clear hn0
  obtain ⟨i0, hi0, hz0, hz1, hz2⟩ := iinfo56
  go_enter Tryz.func9, Tryz.ntmps9
  go_wp2_with (first
    | (go_at_call 27; refine HC.mono ?_; rintro e w1 ⟨r, rfl, hr, hb1⟩; have hr1 := HTX.out r w1 hr; obtain ⟨ao, cap, rfl, -⟩ := id hr1)
    | (go_at_call 28; refine (HCB.out _ w1 hr1).mono ?_; rintro e W2 ⟨rfl, ⟨nn, hnn, hM⟩, hb2⟩))
  rw [← HN.out] at hr1 ⊢
  have HV : Hid (txsIn W2 (.slice ao n cap) ts') := by
    have h := hr1.on hb2
    exact h
  have hb12 := bchain hb1 hb2
  clear hr hr1 hb1 HC HCB HTX hnl
  have hbs : w1.heap.size < W2.heap.size := hM.lt
  obtain ⟨mb, hmb⟩ : ∃ mb, mb = w1.heap.size := ⟨_, rfl⟩
  rw [← hmb] at hM hbs
  simp only [← hmb]
  clear hmb hb2
  go_loopw [6, 8, 9, 10, 11, 12, 13, 21] (fun out _ _ _ _ _ _ i wr => ∃ (k : Nat) (acc : List IE), k ≤ n ∧ i = .int .i64 k ∧ Hid (acc.map (·.1) = Lv.allBy cov (fun _ => true) (ts'.take k)) ∧ Hid (∀ x ∈ acc, IOk W2 x) ∧ wr.ownsRow W2.heap.size 76 11 out acc.length (acc.flatMap icell) ∧ Below W2.heap.size W2 wr) (fun _ _ _ _ _ _ _ i _ => n - (intOf i).toNat)
  case atStart => exact ⟨0, [], by omega, rfl, (allBy_zero cov _ ts').symm, by intro x hx; simp at hx, World.ownsRow_nil _ _ _ _, Below.refl _ _⟩
  case round =>
    obtain ⟨k, acc, hk, rfl, HA, HO, hown, hbw⟩ := hrel
    by_cases hkn : k < n
    · have hkx : k < ts'.length := by rw [← HN.out]; exact hkn
      obtain ⟨ad, ov, rfl, hA0, ho0⟩ := HV.out.get hkx
      obtain ⟨oo, oc, rfl⟩ := ho0.slice
      have hm1 := HF.out _ (List.getElem_mem hkx)
      have hgd := HG.out _ (List.getElem_mem hkx)
      have hst := Lv.allBy_step cov (fun _ => true) ts' hkx
      have hle := allBy_le cov (fun _ => true) ts' (k + 1)
      rw [hst, List.length_append, HN9.out] at hle
      have HE0 : Hid (acc.map (·.1) = Lv.allBy cov (fun _ => true) (ts'.take k) ++ itTo cov (fun _ => true) ts'[k] 0) := by
        have h := HA.out
        rw [show Lv.allBy cov (fun _ => true) (ts'.take k) = Lv.allBy cov (fun _ => true) (ts'.take k) ++ itTo cov (fun _ => true) ts'[k] 0 by rw [itTo_zero, List.append_nil]] at h
        exact h
      have HL : Hid (∀ j, (Lv.allBy cov (fun _ => true) (ts'.take k)).length + (itTo cov (fun _ => true) ts'[k] j).length ≤ N9) := fun j => by
        have := itTo_le cov (fun _ => true) ts'[k] j
        omega
      have HS : Hid (Lv.allBy cov (fun _ => true) (ts'.take (k + 1)) = Lv.allBy cov (fun _ => true) (ts'.take k) ++ Lv.itemsOf cov (fun _ => true) ts'[k]) := hst
      obtain ⟨c0, c1, c2, c3, c4, c5⟩ := hA0.on hbw
      generalize Lv.allBy cov (fun _ => true) (ts'.take k) = pre at *
      generalize ts'[k] = t at *
      obtain ⟨m, hm⟩ : ∃ m, m = t.ops.length := ⟨_, rfl⟩
      have HM : Hid (m = t.ops.length) := hm
      rw [← hm] at ho0 c5 hm1
      have HP : Hid (opsIn W2 (.slice oo m oc) t.ops) := ho0
      clear hm ho0 hA0 HA hst hle
      have hB1 := below_new wr (txO t (.slice oo m oc))
      obtain ⟨bt, hbt⟩ : ∃ bt, bt = wr.heap.size := ⟨_, rfl⟩
      have HBT : Hid (bt = wr.heap.size) := hbt
      have hbt0 : (wr.alloc (txO t (.slice oo m oc))).heap[bt]? = some (txO t (.slice oo m oc)) := by rw [hbt]; exact heap_alloc_new wr _
      have hown1 := own_on hown hB1
      have hbw1 := bchain hbw hB1
      clear hbt
      go_wp2
      simp only [← HBT.out]
      go_loopw [6, 9, 10, 11, 12, 13, 28] (fun out _ _ _ _ _ i wr => ∃ (j : Nat) (acc : List IE), j ≤ m ∧ i = .int .i64 j ∧ Hid (acc.map (·.1) = pre ++ itTo cov (fun _ => true) t j) ∧ Hid (∀ x ∈ acc, IOk W2 x) ∧ wr.ownsRow W2.heap.size 76 11 out acc.length (acc.flatMap icell) ∧ Below W2.heap.size W2 wr ∧ wr.heap[bt]? = some (txO t (.slice oo m oc))) (fun _ _ _ _ _ _ i _ => m - (intOf i).toNat)
      case atStart => exact ⟨0, acc, by omega, rfl, HE0, HO, hown1, hbw1, hbt0⟩
      case round =>
        clear HE0 hown hbw HO hB1 hbt0 hown1 hbw1 c0 c1 c2 c3 c4 c5 HBT
        obtain ⟨j, acc, hj, rfl, HA, HO, hown, hbw, hbt⟩ := hrel
        by_cases hjm : j < m
        · have hjx : j < t.ops.length := by rw [← HM.out]; exact hjm
          obtain ⟨oad, pv, sv, rfl, hB, hps, hs⟩ := HP.out.get hjx
          obtain ⟨pa, pn, pc, rfl⟩ := strs_slice hps
          obtain ⟨sa, sq, sc, rfl⟩ := refs_slice hs
          have hMi := fun h => itTo_miss (cov := cov) (sn := fun _ => true) hjx h
          have hH := fun h2 h3 => itTo_hit (cov := cov) (sn := fun _ => true) hjx rfl h2 h3
          have hroom : acc.length + 1 ≤ 1000001 := by
            have h1 := congrArg List.length HA.out
            rw [List.length_map, List.length_append] at h1
            have := HL.out j
            omega
          obtain ⟨b0, b1, b2, b3, b4, b5, b6⟩ := hB.on hbw
          generalize t.ops[j] = o at *
          have HM' : Hid (¬ (Lv.able o.k = true ∧ cov (t.d, (j : Int)) = false) → acc.map (·.1) = pre ++ itTo cov (fun _ => true) t (j + 1)) := by
            have h : ¬ (Lv.able o.k = true ∧ cov (t.d, (j : Int)) = false) → acc.map (·.1) = pre ++ itTo cov (fun _ => true) t (j + 1) := fun q => by rw [hMi fun q9 => q ⟨q9.2.1, q9.2.2⟩]; exact HA.out
            exact h
          have HH' : Hid (Lv.able o.k = true → cov (t.d, (j : Int)) = false → (acc ++ [((⟨(t.d, (j : Int)), o, t.t⟩ : Lv.Item), Value.slice pa pn pc, Value.slice sa sq sc)]).map (·.1) = pre ++ itTo cov (fun _ => true) t (j + 1)) := by
            have h : Lv.able o.k = true → cov (t.d, (j : Int)) = false → (acc ++ [((⟨(t.d, (j : Int)), o, t.t⟩ : Lv.Item), Value.slice pa pn pc, Value.slice sa sq sc)]).map (·.1) = pre ++ itTo cov (fun _ => true) t (j + 1) := fun q2 q3 => by
              rw [hH q2 q3, List.map_append, HA.out, List.append_assoc]
              rfl
            exact h
          clear hMi hH HA hB
          have hT := TAt.row hbt
          have bA := below_new wr (oO o (.slice pa pn pc) (.slice sa sq sc))
          have bB := below_new2 wr (oO o (.slice pa pn pc) (.slice sa sq sc)) (uO (t.d, (j : Int)))
          have bC := bchain bB (below_new _ (.cells #[] 72))
          obtain ⟨a0, a1, a2, a3, a4, a5⟩ := hT.on bA
          obtain ⟨d0, d1, d2, d3, d4, d5⟩ := hT.on bC
          have hgx : goU (t.d, (j : Int)) := ⟨hgd.1, hgd.2, WalkArith.wf_i64 (by omega)⟩
          have hkey := keyL_of hgx
          have hhas : Maps.has (refSet L) (keyL (t.d, (j : Int))) = cov (t.d, (j : Int)) := by rw [HCV.out]; exact has_refSet HNL.out hgx
          have hMB := map_on (map_on hM hbw) bB
          obtain ⟨v0, v1, v2, v3, v4, v5, v6⟩ := (OAt.newU wr o.k (.slice pa pn pc) o.vk o.vn o.vs o.n (.slice sa sq sc) (t.d, (j : Int))).1.on (below_new _ (.cells #[] 72))
          obtain ⟨x0, x1, x2⟩ := (OAt.newU wr o.k (.slice pa pn pc) o.vk o.vn o.vs o.n (.slice sa sq sc) (t.d, (j : Int))).2.on9 (below_new _ (.cells #[] 72))
          cases hc1 : cov (t.d, (j : Int)) with
          | true =>
            rw [hc1] at hhas
            have HE : Hid (acc.map (·.1) = pre ++ itTo cov (fun _ => true) t (j + 1)) := by
              have h := HM'.out fun q => by rw [hc1] at q; cases q.2
              exact h
            clear HM' HH'
            go_wp2_with (first
              | (at_lookup; refine wpList_lookup_own_unit _ rfl _ _ 67 rfl 70 72 keyLaw Tryz.underlying67 (zero78 _) mb nn _ rfl hMB _ _ rfl hkey ?_; rw [hhas])
              | (go_at_call 29; refine (leaves_any _ _).mono ?_; rintro e w9 ⟨rfl, rfl⟩)
              | go_in)
            go_roundw
            case rel => exact ⟨j + 1, acc, by omega, by go_num, HE, HO, own_on hown bC, bchain hbw bC, row_on hbt bC⟩
            case measure => simp [intOf]; omega
          | false =>
            rw [hc1] at hhas
            cases hab : Lv.able o.k with
            | false =>
              have HLv := leaves_any o.k
              rw [hab] at HLv
              have HE : Hid (acc.map (·.1) = pre ++ itTo cov (fun _ => true) t (j + 1)) := by
                have h := HM'.out fun q => by rw [hab] at q; cases q.1
                exact h
              clear HM' HH'
              go_wp2_with (first
                | (at_lookup; refine wpList_lookup_own_unit _ rfl _ _ 67 rfl 70 72 keyLaw Tryz.underlying67 (zero78 _) mb nn _ rfl hMB _ _ rfl hkey ?_; rw [hhas])
                | (go_at_call 29; refine (HLv _).mono ?_; rintro e w9 ⟨rfl, rfl⟩)
                | go_in)
              go_roundw
              case rel => exact ⟨j + 1, acc, by omega, by go_num, HE, HO, own_on hown bC, bchain hbw bC, row_on hbt bC⟩
              case measure => simp [intOf]; omega
            | true =>
              have HLv := leaves_any o.k
              rw [hab] at HLv
              have HE : Hid ((acc ++ [((⟨(t.d, (j : Int)), o, t.t⟩ : Lv.Item), Value.slice pa pn pc, Value.slice sa sq sc)]).map (·.1) = pre ++ itTo cov (fun _ => true) t (j + 1)) := HH'.out hab hc1
              have hiok : IOk W2 ((⟨(t.d, (j : Int)), o, t.t⟩ : Lv.Item), Value.slice pa pn pc, Value.slice sa sq sc) := ⟨hps, hs⟩
              have HO' : Hid (∀ x ∈ acc ++ [((⟨(t.d, (j : Int)), o, t.t⟩ : Lv.Item), Value.slice pa pn pc, Value.slice sa sq sc)], IOk W2 x) := fun x hx => by
                rcases List.mem_append.1 hx with hx | hx
                · exact HO.out x hx
                · rw [List.mem_singleton.1 hx]; exact hiok
              have hone := icell_one hiok
              have bD := bchain bC (below_new _ (.cells (icell ((⟨(t.d, (j : Int)), o, t.t⟩ : Lv.Item), Value.slice pa pn pc, Value.slice sa sq sc)).toArray 76))
              have hownD := own_on hown bD
              have hbwD := bchain hbw bD
              have hbtD := row_on hbt bD
              have hnew := new_item (((wr.alloc (oO o (.slice pa pn pc) (.slice sa sq sc))).alloc (uO (t.d, (j : Int)))).alloc (.cells #[] 72)) ((⟨(t.d, (j : Int)), o, t.t⟩ : Lv.Item), Value.slice pa pn pc, Value.slice sa sq sc) 76
              rw [show (((wr.alloc (oO o (.slice pa pn pc) (.slice sa sq sc))).alloc (uO (t.d, (j : Int)))).alloc (.cells #[] 72)).heap.size = wr.heap.size + 1 + 1 + 1 by simp] at hnew
              clear HM' HH' hiok
              go_wp2_with (first
                | (at_lookup; refine wpList_lookup_own_unit _ rfl _ _ 67 rfl 70 72 keyLaw Tryz.underlying67 (zero78 _) mb nn _ rfl hMB _ _ rfl hkey ?_; rw [hhas])
                | (go_at_call 29; refine (HLv _).mono ?_; rintro e w9 ⟨rfl, rfl⟩)
                | (at_builtin; refine append_item (ST := 28) (T := 76) rfl Tryz.underlying28 hi0 hz0 hz1 hz2 rfl _ _ rfl W2.heap.size hbwD.size _ acc rfl hownD _ ((⟨(t.d, (j : Int)), o, t.t⟩ : Lv.Item), Value.slice pa pn pc, Value.slice sa sq sc) rfl hnew hone hroom ?_; intro v2 w3 hown2 hg2)
                | go_in)
              go_roundw
              case rel => exact ⟨j + 1, acc ++ [((⟨(t.d, (j : Int)), o, t.t⟩ : Lv.Item), Value.slice pa pn pc, Value.slice sa sq sc)], by omega, by go_num, HE, HO', hown2, hbwD.grown hg2 hbwD.size (fun g e => (hownD.lt g e).1), (hg2.block bt (heap_lt9 hbtD) (own_ne_block hownD hbtD (by decide))).trans hbtD⟩
              case measure => simp [intOf]; omega
        · obtain rfl : j = m := by omega
          have HE : Hid (acc.map (·.1) = Lv.allBy cov (fun _ => true) (ts'.take (k + 1))) := by
            have h := HA.out
            rw [itTo_end (by rw [← HM.out]; exact hjm), ← HS.out] at h
            exact h
          go_wp2
          go_roundw
          case rel => exact ⟨k + 1, acc, by omega, by go_num, HE, HO, hown, hbw⟩
          case measure => simp [intOf]; omega
    · have HE : Hid (acc.map (·.1) = Lv.allBy cov (fun _ => true) ts') := by
        have h := HA.out
        rw [List.take_of_length_le (by rw [← HN.out]; omega)] at h
        exact h
      go_wp2
      go_ret
      exact ⟨_, acc, rfl, itsE_own hown (fun x hx => (HO.out x hx).on hbw), HE.out, bchain hb12 hbw⟩
end Go.Proofs.YthlhopdlkkeohaaGreatDoor.O
