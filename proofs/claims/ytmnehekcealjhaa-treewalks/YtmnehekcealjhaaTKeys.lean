/- The walks of tree's Keys, Kinds and Deep. -/
import Derived.Test.YtmnehekcealjhaaRowR
import Derived.Test.YtmnehekcealjhaaAtPAll
import Derived.Test.YtmnehekcealjhaaLfMem
namespace Go.Proofs.Ytmnehekcealjhaa.O
open Go.RowKit

/-- A loop's variable: its path, its kind. -/
theorem IVar4 {w W : World} {x : IE} (hb : Below (w.alloc (.cells (icell x).toArray 60)).heap.size (w.alloc (.cells (icell x).toArray 60)) W) : W.cell? ⟨w.heap.size, 4, none⟩ = some x.2.1 := keep_cell hb (IcAt.new w x 60).c4
theorem IVar3 {w W : World} {x : IE} (hb : Below (w.alloc (.cells (icell x).toArray 60)).heap.size (w.alloc (.cells (icell x).toArray 60)) W) : W.cell? ⟨w.heap.size, 3, none⟩ = some (.int .i64 x.1.o.k) := keep_cell hb (IcAt.new w x 60).c3
theorem next_yes {p : List (List UInt8)} {xs : List IE} {k : Nat} (hk : k < xs.length) {s : List UInt8} (h : Tr.next p xs[k].1 = some s) : (xs.take (k + 1)).filterMap (fun y => Tr.next p y.1) = (xs.take k).filterMap (fun y => Tr.next p y.1) ++ [s] := by
  rw [List.take_succ_eq_append_getElem hk, List.filterMap_append]
  simp [h]
theorem next_no {p : List (List UInt8)} {xs : List IE} {k : Nat} (hk : k < xs.length) (h : Tr.next p xs[k].1 = none) : (xs.take (k + 1)).filterMap (fun y => Tr.next p y.1) = (xs.take k).filterMap (fun y => Tr.next p y.1) := by
  rw [List.take_succ_eq_append_getElem hk, List.filterMap_append]
  simp [h]
theorem fm_len {α β : Type} (f : α → Option β) : ∀ l : List α, (l.filterMap f).length ≤ l.length
  | [] => by simp
  | x :: l => by
    have := fm_len f l
    rw [List.filterMap_cons]
    split
    · simp only [List.length_cons]; omega
    · simp only [List.length_cons]; omega
theorem next_some {p : List (List UInt8)} {i : Lv.Item} (h : p.length < i.o.p.length) (hu : Pt.under i.o.p p = true) : Tr.next p i = some i.o.p[p.length] := by
  unfold Tr.next
  rw [if_pos ⟨h, hu⟩, List.getElem?_eq_getElem h]
theorem next_none1 {p : List (List UInt8)} {i : Lv.Item} (h : ¬ p.length < i.o.p.length) : Tr.next p i = none := by
  unfold Tr.next
  rw [if_neg fun q => h q.1]
theorem next_none2 {p : List (List UInt8)} {i : Lv.Item} (h : Pt.under i.o.p p = false) : Tr.next p i = none := by
  unfold Tr.next
  rw [if_neg fun q => by rw [h] at q; cases q.2]
theorem short_sizes {o : Os.Op} (h : Os.short o = true) : o.p.length ≤ 2000000 ∧ ∀ t ∈ o.p, t.length ≤ 2000000 := by
  have h1 := (short_parts h).1
  exact ⟨by have := h1.1; omega, fun t ht => by have := h1.2 t ht; omega⟩

set_option maxRecDepth 20000 in
set_option maxHeartbeats 2000000 in
theorem keys_any (v vp : Value) (xs : List IE) (p : List (List UInt8)) (w : World) (hv : itsE w v xs) (hp : U.strsAt w vp p) (hn : xs.length ≤ 1000000) (hpn : p.length ≤ 2000000) (hs : ShortI xs) :
    Calls Try.prog 10 #[v, vp] w fun e w' => ∃ r, e = .returned r ∧ U.strsAt w' r (Li.vals Lib.compareBytes (xs.filterMap fun y => Tr.next p y.1)) ∧ Below w.heap.size w w' := by
  obtain ⟨ao, cap, rfl⟩ := hv.slice
  obtain ⟨qa, qc, rfl⟩ := U.strsAt_len hp
  obtain ⟨i0, hi0, hz0, hz1, hz2⟩ := sinfo9
  obtain ⟨n, hn0⟩ : ∃ n, n = xs.length := ⟨_, rfl⟩
  obtain ⟨m, hm0⟩ : ∃ m, m = p.length := ⟨_, rfl⟩
  have HN : Hid (n = xs.length) := hn0
  have HM : Hid (m = p.length) := hm0
  rw [← hn0] at hv hn ⊢
  rw [← hm0] at hp hpn ⊢
  have HV : Hid (itsE w (.slice ao n cap) xs) := hv
  have HS : Hid (ShortI xs) := hs
  have HP : Hid (U.strsAt w (.slice qa m qc) p) := hp
  clear hn0 hm0 hv hs hp
  go_enter Try.func10, Try.ntmps10
  go_wp2
  go_loopw [5, 7, 10] (fun out _ i wr => ∃ (k : Nat) (acc : List (List UInt8)), k ≤ n ∧ i = .int .i64 k ∧ Hid (acc = (xs.take k).filterMap fun y => Tr.next p y.1) ∧ wr.ownsRow w.heap.size 9 1 out acc.length (acc.flatMap scell) ∧ Below w.heap.size w wr) (fun _ _ i _ => n - (intOf i).toNat)
  case atStart => exact ⟨0, [], by omega, rfl, rfl, World.ownsRow_nil _ _ _ _, Below.refl _ _⟩
  case round =>
    obtain ⟨k, acc, hk, rfl, HA, hown, hbw⟩ := hrel
    have hroom : acc.length + 1 ≤ 1000001 := by
      have h1 := congrArg List.length HA.out
      have h2 := fm_len (fun y : IE => Tr.next p y.1) (xs.take k)
      rw [← h1, List.length_take] at h2
      omega
    by_cases hkn : k < n
    · have hkx : k < xs.length := by rw [← HN.out]; exact hkn
      obtain ⟨ad, rfl, -, hX, hXi⟩ := (HV.out.on hbw).get hkx
      have hsz := short_sizes (HS.out _ (List.getElem_mem hkx))
      have HYes : Hid (∀ s, Tr.next p xs[k].1 = some s → acc ++ [s] = (xs.take (k + 1)).filterMap fun y => Tr.next p y.1) := by
        have h : ∀ s, Tr.next p xs[k].1 = some s → acc ++ [s] = (xs.take (k + 1)).filterMap fun y => Tr.next p y.1 := fun s h => by rw [next_yes hkx h, HA.out]
        exact h
      have HNo : Hid (Tr.next p xs[k].1 = none → acc = (xs.take (k + 1)).filterMap fun y => Tr.next p y.1) := by
        have h : Tr.next p xs[k].1 = none → acc = (xs.take (k + 1)).filterMap fun y => Tr.next p y.1 := fun h => by rw [next_no hkx h]; exact HA.out
        exact h
      clear HA
      generalize xs[k] = y at *
      obtain ⟨it, pv, sv⟩ := y
      obtain ⟨hpx, hrx⟩ : U.strsAt wr pv it.o.p ∧ refsIn wr sv it.o.l := hXi
      have hsz1 : it.o.p.length ≤ 2000000 := hsz.1
      obtain ⟨pa, pc, rfl⟩ := U.strsAt_len hpx
      obtain ⟨sa, sn, sc, rfl⟩ := refs_slice hrx
      obtain ⟨c0, c1, c2, c3, c4, c5, c6, c7, c8, c9, c10⟩ := hX
      have bA := below_new wr (.cells (icell (it, .slice pa it.o.p.length pc, .slice sa sn sc)).toArray 60)
      have HU := fun W (hb : Below wr.heap.size wr W) => U.under_any (.slice pa it.o.p.length pc) (.slice qa m qc) it.o.p p W hsz1 (by rw [← HM.out]; exact hpn) (U.strsAt_below hpx hb (Nat.le_refl _)) (U.strsAt_below HP.out (bchain hbw hb) (Nat.le_refl _))
      have hB1 := bchain hbw bA
      by_cases hlt : m < it.o.p.length
      · have hltp : p.length < it.o.p.length := by rw [← HM.out]; exact hlt
        have hpos : (m : Int) < (it.o.p.length : Int) := by omega
        cases hu : Pt.under it.o.p p with
        | false =>
          have HE : Hid (acc = (xs.take (k + 1)).filterMap fun y => Tr.next p y.1) := by have h := HNo.out (next_none2 hu); exact h
          rw [hu] at HU
          clear HYes HNo hpx hrx hsz hsz1
          generalize it.o.p.length = pl at *
          go_wp2_with (go_at_call 24; refine (HU _ bA).mono ?_; rintro e w1 ⟨rfl, hb1⟩)
          go_roundw
          case rel => exact ⟨k + 1, acc, by omega, by go_num, HE, own_on hown (bchain bA hb1), bchain hB1 hb1⟩
          case measure => simp [intOf]; omega
        | true =>
          have HE : Hid (acc ++ [it.o.p[p.length]] = (xs.take (k + 1)).filterMap fun y => Tr.next p y.1) := by have h := HYes.out _ (next_some hltp hu); exact h
          rw [hu] at HU
          obtain ⟨pao, pcap, ep, _, hcp⟩ := id hpx
          obtain ⟨pad, rfl, hcell⟩ := hcp p.length hltp
          obtain ⟨rfl, rfl⟩ : pa = some pad ∧ pc = pcap := by simpa using ep
          clear HYes HNo hpx hrx hsz hsz1 hcp ep
          obtain ⟨s, hs9⟩ : ∃ s, s = it.o.p[p.length] := ⟨_, rfl⟩
          rw [← hs9] at hcell HE
          rw [← HM.out] at hcell
          clear hs9 hltp
          generalize it.o.p.length = pl at *
          have hm1 : (0 : Int) ≤ (m : Int) := by omega
          go_wp2_with (first
            | (at_builtin; refine append_one (f := scell) (m := 1) (fun _ => rfl) (Nat.succ_pos 0) (ST := 31) (T := 9) rfl Try.underlying31 hi0 hz0 hz1 hz2 rfl (by decide) _ _ rfl w.heap.size (bchain hB2 (below_new w1 (.cells #[.string ⟨s.toArray⟩] 9))).size _ acc rfl (own_on (own_on hown (bchain bA hb1)) (below_new w1 (.cells #[.string ⟨s.toArray⟩] 9))) _ s rfl (new_cells w1 (scell s) 9) (fun u hu => by rw [List.mem_singleton.1 hu]; rfl) hroom ?_; intro v2 w3 hown2 hg2)
            | (go_at_call 24; refine (HU _ bA).mono ?_; rintro e w1 ⟨rfl, hb1⟩; have hB2 := bchain hB1 hb1; have i4 := IVar4 hb1; have hcell1 := keep_cell (bchain bA hb1) hcell)
            | go_in)
          go_roundw
          case rel => exact ⟨k + 1, acc ++ [s], by omega, by go_num, HE, hown2, (bchain hB2 (below_new w1 (.cells #[.string ⟨s.toArray⟩] 9))).grown hg2 (bchain hB2 (below_new w1 (.cells #[.string ⟨s.toArray⟩] 9))).size (fun g e => (hown.lt g e).1)⟩
          case measure => simp [intOf]; omega
      · have HE : Hid (acc = (xs.take (k + 1)).filterMap fun y => Tr.next p y.1) := by have h := HNo.out (next_none1 (by rw [← HM.out]; exact hlt)); exact h
        have hneg : ¬ (m : Int) < (it.o.p.length : Int) := by omega
        clear HYes HNo hpx hrx hsz hsz1 HU
        generalize it.o.p.length = pl at *
        go_wp2
        go_roundw
        case rel => exact ⟨k + 1, acc, by omega, by go_num, HE, own_on hown bA, hB1⟩
        case measure => simp [intOf]; omega
    · have HE : Hid (acc = xs.filterMap fun y => Tr.next p y.1) := by
        have h := HA.out
        rw [List.take_of_length_le (by rw [← HN.out]; omega)] at h
        exact h
      have hal : acc.length ≤ 1000000 := by
        have h1 := congrArg List.length HE.out
        have h2 := fm_len (fun y : IE => Tr.next p y.1) xs
        have := HN.out
        omega
      have HC := sortS_any u5 acc w.heap.size w wr hbw (rowR.of_own (cell1_len _) hown) hal
      have hsl : (acc.mergeSort fun x y => decide (x ≤ y)).length ≤ 1000000 := by rw [List.length_mergeSort]; exact hal
      have HS9 := Li.sorted_strs acc
      generalize (acc.mergeSort fun x y => decide (x ≤ y)) = ss at *
      clear HA hown
      go_wp2_with (first
        | (go_at_call 25; refine HC.mono ?_; rintro e w1 ⟨rfl, hr1, hb1⟩)
        | (go_at_call 26; refine (compactS_any u5 ss w.heap.size w w1 hb1 hr1 hsl).mono ?_; rintro e w2 ⟨r, rfl, hr2, hb2⟩))
      go_ret
      exact ⟨_, rfl, by rw [← HE.out, ← HS9]; exact strs_row hr2, hb2⟩
end Go.Proofs.Ytmnehekcealjhaa.O
