/- The walk of the statement TreeWalks. -/
import Derived.Test.YtmnehekcealjhaaTItsP
import Derived.Test.YtmnehekcealjhaaAtPAll
import Derived.Deep.RegionHeld3
namespace Go.Proofs.Ytmnehekcealjhaa.O
open Go.RowKit

theorem bytes_eq9 {a b : List UInt8} : ((⟨a.toArray⟩ : ByteArray) = ⟨b.toArray⟩) ↔ a = b := by
  constructor
  · intro e
    have := congrArg (fun b : ByteArray => b.data.toList) e
    simpa using this
  · intro e; rw [e]
set_option maxRecDepth 20000 in
set_option maxHeartbeats 2000000 in
theorem key_any (va : Value) (xs : List (List UInt8)) (s : List UInt8) (w : World) (hn : xs.length ≤ 2000000) (ha : U.strsAt w va xs) (hs : s ∈ xs) :
    Calls Try.prog 9 #[va, .string ⟨s.toArray⟩] w fun e w' => e = .returned (.bool true) ∧ Below w.heap.size w w' := by
  obtain ⟨ao, ca, rfl, _, hca⟩ := ha
  obtain ⟨n, hn0⟩ : ∃ n, n = xs.length := ⟨_, rfl⟩
  have HN : Hid (n = xs.length) := hn0
  have HC : Hid (∀ k (h : k < xs.length), ∃ ad, ao = some ad ∧ w.cell? (ad.add k) = some (.string ⟨(xs[k]).toArray⟩)) := hca
  have HM : Hid (s ∈ xs) := hs
  rw [← hn0] at hn ⊢
  clear hca hs hn0
  go_enter Try.func9, Try.ntmps9
  go_wp2
  go_loopw [5] (fun i wr => ∃ k : Nat, k ≤ n ∧ i = .int .i64 k ∧ Hid (¬ s ∈ xs.take k) ∧ wr = w) (fun i _ => n - (intOf i).toNat)
  case atStart =>
    have h0 : ¬ s ∈ xs.take 0 := by simp
    exact ⟨0, by omega, rfl, h0, rfl⟩
  case round =>
    obtain ⟨k, hk, rfl, HT, rfl⟩ := hrel
    by_cases hkn : k < n
    · have hkx : k < xs.length := by rw [← HN.out]; exact hkn
      obtain ⟨ad, rfl, hA⟩ := HC.out k hkx
      by_cases he : xs[k] = s
      · rw [he] at hA
        clear HT
        go_wp2
        go_ret
        exact ⟨rfl, Below.refl _ _⟩
      · have HT' : Hid (¬ s ∈ xs.take (k + 1)) := by
          have h : ¬ s ∈ xs.take (k + 1) := by
            rw [List.take_succ_eq_append_getElem hkx, List.mem_append, List.mem_singleton]
            rintro (q | q)
            · exact HT.out q
            · exact he q.symm
          exact h
        have hbe : (xs[k] == s) = false := beq_eq_false_iff_ne.2 he
        clear HT he
        generalize xs[k] = x at *
        go_wp2
        go_roundw
        case rel => exact ⟨k + 1, by omega, by go_num, HT', trivial⟩
        case measure => simp [intOf]; omega
    · exfalso
      have h := HT.out
      rw [List.take_of_length_le (by rw [← HN.out]; omega)] at h
      exact h HM.out

theorem at_at {its : List Lv.Item} {r vp : Value} {p : List (List UInt8)} {w : World} (leaf : Int) (h : ItsAt its w r) (hp : U.strsAt w vp p) : Calls Try.prog 11 #[r, vp, .int .i64 leaf] w fun e w' => ∃ ra rc, e = .returned (.slice ra (Lv.atLeaf its p leaf).length rc) ∧ Below w.heap.size w w' := by
  obtain ⟨xs, h1, h2, h3, h4⟩ := h
  refine (at_any r vp xs p leaf w h1 hp h4 h3).mono ?_
  rintro e w' ⟨q, rfl, e2, e3⟩
  obtain ⟨ra, rc, rfl⟩ := e2.slice
  have hf : (xs.filter fun x => isAt p leaf x.1).map (·.1) = (xs.map (·.1)).filter (isAt p leaf) := by rw [List.filter_map]; rfl
  have hl : (xs.filter fun x => isAt p leaf x.1).length = (Lv.atLeaf its p leaf).length := by
    have h := congrArg List.length hf
    rw [List.length_map, h2] at h
    exact h
  exact ⟨ra, rc, by rw [hl], e3⟩

set_option maxRecDepth 20000 in
set_option maxHeartbeats 4000000 in
theorem treeWalks_walk (v : Value) (ts : List Tx.Txn) (vu : Value) (u : List U) (w : World) (hw : ∀ t ∈ ts, txWide t) (hv : txsIn w v ts) (hu : T.cntsIn w vu u) :
    Calls Try.prog 3 #[v, vu] w fun e w' => e = .returned (.bool true) ∧ Below w.heap.size w w' := by
  have HG := good_any v vu ts u w hw hv hu
  obtain ⟨ao, cap, rfl⟩ := txs_slice hv
  obtain ⟨uo, uc, rfl⟩ := cnts_slice hu
  cases hg : good13 ts u with
  | false =>
    rw [hg] at HG
    clear hv hu hw
    generalize ts.length = n at *
    generalize u.length = m at *
    go_enter Try.func3, Try.ntmps3
    go_wp2_with (first
      | (go_at_call 4; refine HG.mono ?_; rintro e w1 ⟨rfl, hb1⟩)
      | (go_at_call 5; refine (awake_any _).mono ?_; rintro e w2 ⟨rfl, hb2⟩))
    go_ret
    exact ⟨rfl, bchain hb1 hb2⟩
  | true =>
    rw [hg] at HG
    obtain ⟨⟨h20, hr, hok⟩, h100, hstd⟩ := good13_parts hg
    have HX : Hid (AllC 6 w (.slice ao ts.length cap) (.slice uo u.length uc) (Lv.all ts (seenD u))) := allC hv hu (by omega) hok (by omega) hstd
    have hpp : ∀ i ∈ Lv.all ts (seenD u), 1 ≤ i.o.p.length ∧ i.o.p.length ≤ 8 := all_parts hok
    have hln0 : (Lv.all ts (seenD u)).length ≤ 1000000 := Nat.le_trans (Lv.allBy_len (B := 1000) fun t ht => (okT_few (hok t ht)).1) (by omega)
    generalize Lv.all ts (seenD u) = its at *
    have hln : its.length ≤ 1000000 := hln0
    have hlb := leaves_len its
    have hkb : Hid (∀ q, (Tr.keys its q).length ≤ 2000000) := by
      have h : ∀ q, (Tr.keys its q).length ≤ 2000000 := fun q => by
        unfold Tr.keys
        have h1 := Li.vals_len (comp := Lib.compareBytes) (its.filterMap (Tr.next q))
        have h2 := fm_len (Tr.next q) its
        omega
      exact h
    have hdl := Tr.deep_leaves fun i hi => (hpp i hi).1
    obtain ⟨d, hd0⟩ : ∃ d, d = Tr.deep its := ⟨_, rfl⟩
    obtain ⟨l, hl0⟩ : ∃ l, l = (Tr.leaves its).length := ⟨_, rfl⟩
    have HD : Hid (d = Tr.deep its) := hd0
    have HLe : Hid (l = (Tr.leaves its).length) := hl0
    have hlb1 : l ≤ 1000000 := by omega
    have hdl' : 0 < d ↔ 0 < l := by rw [hd0, hl0, hdl, List.length_pos_iff]
    have HPL : Hid (∀ x ∈ Tr.leaves its, x.1.length ≤ 8 ∧ x.1.length ≤ d ∧ Lv.atLeaf its x.1 x.2 ≠ [] ∧ ∀ j, ∀ hj : j < x.1.length, x.1[j] ∈ Tr.keys its (x.1.take j)) := by
      have h : ∀ x ∈ Tr.leaves its, x.1.length ≤ 8 ∧ x.1.length ≤ d ∧ Lv.atLeaf its x.1 x.2 ≠ [] ∧ ∀ j, ∀ hj : j < x.1.length, x.1[j] ∈ Tr.keys its (x.1.take j) := fun x hx => by
        refine ⟨?_, by rw [hd0]; exact Tr.leaf_deep hx, Tr.leaf_there hx, fun j hj => Tr.walk hx hj⟩
        obtain ⟨i, hi, e⟩ := Tr.mem_leaves.1 hx
        rw [← e]
        exact (hpp i hi).2
      exact h
    have C8 : Hid (∀ r W, ItsAt its W r → Calls Try.prog 8 #[r] W fun e w' => e = .returned (.int .i64 (d : Int)) ∧ Below W.heap.size W w') := by
      have h : ∀ r W, ItsAt its W r → Calls Try.prog 8 #[r] W fun e w' => e = .returned (.int .i64 (d : Int)) ∧ Below W.heap.size W w' := fun r W h1 => by rw [hd0]; exact deep_at h1
      exact h
    have C7 : Hid (∀ r W, ItsAt its W r → Calls Try.prog 7 #[r] W fun e w' => ∃ la lc, e = .returned (.slice la l lc) ∧ Hid (LvsAt its w' (.slice la l lc)) ∧ Below W.heap.size W w') := by
      have h : ∀ r W, ItsAt its W r → Calls Try.prog 7 #[r] W fun e w' => ∃ la lc, e = .returned (.slice la l lc) ∧ Hid (LvsAt its w' (.slice la l lc)) ∧ Below W.heap.size W w' := fun r W h1 =>
        (leaves_at9 h1).mono fun e w' ⟨q, e1, e2, e3⟩ => by
          obtain ⟨la, lc, rfl⟩ := e2.slice
          rw [← hl0] at e1 e2
          exact ⟨la, lc, e1, e2, e3⟩
      exact h
    clear hv hu hw hg h20 hr hok h100 hstd hpp hdl hd0 hl0 hln hln0 hlb
    generalize ts.length = n at *
    generalize u.length = m at *
    go_enter Try.func3, Try.ntmps3
    go_wp2_with (first
      | (go_at_call 4; refine HG.mono ?_; rintro e w1 ⟨rfl, hb1⟩)
      | (go_at_call 6; refine (HX.out _ hb1).mono ?_; rintro e w2 ⟨rx, rfl, hx, hb2⟩; have k2 := bchain hb1 hb2)
      | (go_at_call 7; refine (C7.out _ _ hx).mono ?_; rintro e w3 ⟨la, lc, rfl, hL, hb3⟩; have k3 := bchain k2 hb3; have hx3 := hx.on hb3)
      | (go_at_call 8; refine (C8.out _ _ hx3).mono ?_; rintro e w4 ⟨rfl, hb4⟩; have k4 := bchain k3 hb4))
    have HX4 : Hid (ItsAt its w4 rx) := hx3.on hb4
    have HL4 : Hid (LvsAt its w4 (.slice la l lc)) := hL.out.on hb4
    clear hx hx3 hL C7 C8 HX HG
    go_loopw [8, 9, 10] (fun i _ _ wr => ∃ t : Nat, t ≤ l ∧ i = .int .i64 t ∧ Below w4.heap.size w4 wr) (fun i _ _ _ => l - (intOf i).toNat)
    case atStart => exact ⟨0, by omega, rfl, Below.refl _ _⟩
    case round =>
      obtain ⟨t, ht, rfl, hbw⟩ := hrel
      by_cases htl : t < l
      · obtain ⟨zs, hz1, hz2, -, -⟩ := HL4.out.on hbw
        have hzl : zs.length = l := by
          have h := congrArg List.length hz2
          rw [List.length_map] at h
          rw [h, ← HLe.out]
        rw [← hzl] at hz1
        have hzt : t < zs.length := by omega
        obtain ⟨ad, rfl, -, hY, hYo⟩ := hz1.get hzt
        obtain ⟨hq8, hqd, hqt, hqk⟩ := HPL.out zs[t].1 (by rw [← hz2]; exact List.mem_map.2 ⟨_, List.getElem_mem hzt, rfl⟩)
        obtain ⟨o0, o1⟩ := hY
        clear hz1 hz2 hzl
        generalize zs[t] = z at *
        obtain ⟨⟨zp, zk⟩, zv⟩ := z
        have hYo' : U.strsAt wr zv zp := hYo
        obtain ⟨pa, pc, rfl⟩ := U.strsAt_len hYo'
        have hpcap : zp.length ≤ pc := by
          obtain ⟨_, c, e, h, _⟩ := id hYo'
          cases e
          exact h
        have o1' : wr.cell? ⟨(ad.add (t * 2)).block, (ad.add (t * 2)).off + 1, none⟩ = some (.int .i64 zk) := o1
        have o0' : wr.cell? (ad.add (t * 2)) = some (.slice pa zp.length pc) := o0
        have HK9 : Hid (∀ j, ∀ hj : j < zp.length, zp[j] ∈ Tr.keys its (zp.take j)) := hqk
        have hq8' : zp.length ≤ 8 := hq8
        have hqd' : zp.length ≤ d := hqd
        have HAt : Hid (∀ W, Below wr.heap.size wr W → Calls Try.prog 11 #[rx, .slice pa zp.length pc, .int .i64 zk] W fun e w' => ∃ ra rn rc, e = .returned (.slice ra rn rc) ∧ ((rn : Int) == 0) = false ∧ Below W.heap.size W w') := by
          have h : ∀ W, Below wr.heap.size wr W → Calls Try.prog 11 #[rx, .slice pa zp.length pc, .int .i64 zk] W fun e w' => ∃ ra rn rc, e = .returned (.slice ra rn rc) ∧ ((rn : Int) == 0) = false ∧ Below W.heap.size W w' := fun W hb =>
            (at_at zk (HX4.out.on (bchain hbw hb)) (U.strsAt_below hYo' hb (Nat.le_refl _))).mono fun e w' ⟨ra, rc, e1, e2⟩ => ⟨ra, _, rc, e1, beq_eq_false_iff_ne.2 (by
              have : 0 < (Lv.atLeaf its zp zk).length := List.length_pos_iff.2 hqt
              omega), e2⟩
          exact h
        have HYW : Hid (U.strsAt wr (.slice pa zp.length pc) zp) := hYo'
        obtain ⟨pn, hpn0⟩ : ∃ pn, pn = zp.length := ⟨_, rfl⟩
        have HPN : Hid (pn = zp.length) := hpn0
        rw [← hpn0] at o0' hq8' hqd' HAt HYW hpcap
        clear hYo hYo' o0 o1 hq8 hqd hqt hqk hpn0
        have hi0 : (0 : Int) ≤ (t : Int) := by omega
        have hi1 : (t : Int) < (l : Int) := by omega
        go_wp2
        go_loopw [10] (fun kk wq => ∃ k : Nat, k ≤ pn ∧ kk = .int .i64 k ∧ Below wr.heap.size wr wq) (fun kk _ => pn - (intOf kk).toNat)
        case atStart => exact ⟨0, by omega, rfl, Below.refl _ _⟩
        case round =>
          obtain ⟨k, hk, rfl, hbq⟩ := hrel
          by_cases hkp : k < pn
          · have hkz : k < zp.length := by rw [← HPN.out]; exact hkp
            obtain ⟨pao, pc2, e9, _, hcc⟩ := id HYW.out
            obtain ⟨pad, rfl, hcell0⟩ := hcc k hkz
            obtain ⟨rfl, -⟩ : pa = some pad ∧ pc = pc2 := by
              simp only [Value.slice.injEq] at e9
              exact ⟨e9.1, e9.2.2⟩
            have hcell := keep_cell hbq hcell0
            have hmem := HK9.out k hkz
            have hlk : (zp.take k).length ≤ 2000000 := by rw [List.length_take]; omega
            have HC10 := fun W (hb : Below wr.heap.size wr W) => keys_at (HX4.out.on (bchain hbw (bchain hbq hb))) (U.strsAt_take (U.strsAt_below HYW.out (bchain hbq hb) (Nat.le_refl _)) (by omega : k ≤ zp.length)) hlk
            have HC9 := fun va W (h : U.strsAt W va (Tr.keys its (zp.take k))) => key_any va (Tr.keys its (zp.take k)) zp[k] W (hkb.out _) h hmem
            clear hcc hcell0 hmem hlk
            obtain ⟨s, hs9⟩ : ∃ s, s = zp[k] := ⟨_, rfl⟩
            rw [← hs9] at hcell HC9
            clear hs9 hkz
            generalize Tr.keys its (zp.take k) = ks at *
            have hk0 : (0 : Int) ≤ (k : Int) := by omega
            have hk1 : (k : Int) < (pn : Int) := by omega
            have hk2 : (k : Int) ≤ (pc : Int) := by omega
            go_wp2_with fail
            go_region_held3 (fun W => W.cell? (pad.add k) = some (.string ⟨s.toArray⟩) ∧ Below wr.heap.size wr W)
              (first | exact ⟨hcell, Below.refl _ _⟩ | exact ⟨hcell, (Below.refl _ wr).drew⟩ | exact ⟨keep_cell (bchain (Below.refl _ wr).drew hb5) hcell, bchain (Below.refl _ wr).drew hb5⟩ | exact ⟨keep_cell (bchain (Below.refl _ wr).drew (bchain hb5 hb6)) hcell, bchain (Below.refl _ wr).drew (bchain hb5 hb6)⟩)
              (first | (go_at_call 9; refine (HC9 q5 _ hq5).mono ?_; rintro e w6 ⟨rfl, hb6⟩) | (go_at_call 10; refine (HC10 _ (Below.refl _ wr).drew).mono ?_; rintro e w5 ⟨q5, rfl, hq5, hb5⟩))
            have hb9 := bchain hbq (bchain (Below.refl _ wr).drew (bchain hb5 hb6))
            go_wp2
            go_roundw
            case rel => exact ⟨k + 1, by omega, by go_num, (by first | exact hb9 | exact hb9.drew)⟩
            case measure => simp [intOf]; omega
          · have hg1 : ¬ (d : Int) < (pn : Int) := by omega
            have hg2 : ¬ (8 : Int) < (pn : Int) := by omega
            have o1q := keep_cell hbq o1'
            go_wp2_with (go_at_call 11; refine (HAt.out _ hbq).mono ?_; rintro e w7 ⟨ra, rn, rc, rfl, hrn, hb7⟩)
            go_roundw
            case rel => exact ⟨t + 1, by omega, by go_num, bchain hbw (bchain hbq hb7)⟩
            case measure => simp [intOf]; omega
      · by_cases hd : 0 < d
        · have hl : 0 < l := hdl'.1 hd
          have hd1 : (0 : Int) < (d : Int) := by omega
          have hl1 : (0 : Int) < (l : Int) := by omega
          go_wp2_with (go_at_call 5; refine (awake_any _).mono ?_; rintro e wG ⟨rfl, hbG⟩)
          go_ret
          exact ⟨rfl, bchain k4 (bchain hbw hbG)⟩
        · have hl : ¬ 0 < l := fun q => hd (hdl'.2 q)
          have hd1 : ¬ (0 : Int) < (d : Int) := by omega
          have hl1 : ¬ (0 : Int) < (l : Int) := by omega
          go_wp2_with (go_at_call 5; refine (awake_any _).mono ?_; rintro e wG ⟨rfl, hbG⟩)
          go_ret
          exact ⟨rfl, bchain k4 (bchain hbw hbG)⟩
end Go.Proofs.Ytmnehekcealjhaa.O
