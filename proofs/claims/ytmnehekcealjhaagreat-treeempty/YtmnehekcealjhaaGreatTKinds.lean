/- The walks of tree's Kinds and Deep. -/
import Derived.Test.YtmnehekcealjhaaGreatTKeys
import Derived.Test.YtmnehekcealjhaaGreatCoversAll
namespace Go.Proofs.YtmnehekcealjhaaGreat.O
open Go.RowKit

/-- The kinds at a path, as they are met. -/
def knd (p : List (List UInt8)) (ys : List IE) : List Int := (ys.filter fun y => decide (y.1.o.p = p)).map fun y => Os.leaf y.1.o.k
theorem knd_yes {p : List (List UInt8)} {xs : List IE} {k : Nat} (hk : k < xs.length) (h : xs[k].1.o.p = p) : knd p (xs.take (k + 1)) = knd p (xs.take k) ++ [Os.leaf xs[k].1.o.k] := by
  unfold knd
  rw [List.take_succ_eq_append_getElem hk, List.filter_append, List.map_append, List.filter_cons, if_pos (decide_eq_true h)]
  rfl
theorem knd_no {p : List (List UInt8)} {xs : List IE} {k : Nat} (hk : k < xs.length) (h : xs[k].1.o.p ≠ p) : knd p (xs.take (k + 1)) = knd p (xs.take k) := by
  unfold knd
  rw [List.take_succ_eq_append_getElem hk, List.filter_append, List.map_append, List.filter_cons, if_neg (fun q => h (of_decide_eq_true q))]
  exact List.append_nil _
theorem knd_len (p : List (List UInt8)) (ys : List IE) : (knd p ys).length ≤ ys.length := by
  unfold knd
  rw [List.length_map]
  exact List.length_filter_le _ _
theorem new_num (w : World) (z : Int) : ∀ j v, (ncell z)[j]? = some v → (w.alloc (.cells #[.int .i64 z] 3)).cell? ((⟨w.heap.size, 0, none⟩ : Addr).add j) = some v := new_cells w (ncell z) 3
theorem ncell_one (z : Int) : ∀ u ∈ ncell z, u.oneCell' = true := fun u hu => by rw [List.mem_singleton.1 hu]; rfl

set_option maxRecDepth 20000 in
set_option maxHeartbeats 2000000 in
theorem kinds_any (v vp : Value) (xs : List IE) (p : List (List UInt8)) (w : World) (hv : itsE w v xs) (hp : U.strsAt w vp p) (hn : xs.length ≤ 1000000) (hs : ShortI xs) :
    Calls Tryz.prog 10 #[v, vp] w fun e w' => ∃ r, e = .returned r ∧ rowsIn w' ncell r (Li.vals (fun a b : Int => a - b) (knd p xs)) ∧ Below w.heap.size w w' := by
  obtain ⟨ao, cap, rfl⟩ := hv.slice
  obtain ⟨qa, qn, qc, rfl⟩ := strs_slice hp
  obtain ⟨i0, hi0, hz0, hz1, hz2⟩ := ninfo3
  obtain ⟨n, hn0⟩ : ∃ n, n = xs.length := ⟨_, rfl⟩
  have HN : Hid (n = xs.length) := hn0
  rw [← hn0] at hv hn ⊢
  have HV : Hid (itsE w (.slice ao n cap) xs) := hv
  have HS : Hid (ShortI xs) := hs
  have HP : Hid (U.strsAt w (.slice qa qn qc) p) := hp
  clear hn0 hv hs hp
  go_enter Tryz.func10, Tryz.ntmps10
  go_wp2
  go_loopw [5, 7, 10] (fun out _ i wr => ∃ (k : Nat) (acc : List Int), k ≤ n ∧ i = .int .i64 k ∧ Hid (acc = knd p (xs.take k)) ∧ wr.ownsRow w.heap.size 3 1 out acc.length (acc.flatMap ncell) ∧ Below w.heap.size w wr) (fun _ _ i _ => n - (intOf i).toNat)
  case atStart => exact ⟨0, [], by omega, rfl, rfl, World.ownsRow_nil _ _ _ _, Below.refl _ _⟩
  case round =>
    obtain ⟨k, acc, hk, rfl, HA, hown, hbw⟩ := hrel
    have hroom : acc.length + 1 ≤ 1000001 := by
      have h1 := congrArg List.length HA.out
      have h2 := knd_len p (xs.take k)
      rw [← h1, List.length_take] at h2
      omega
    by_cases hkn : k < n
    · have hkx : k < xs.length := by rw [← HN.out]; exact hkn
      obtain ⟨ad, rfl, -, hX, hXi⟩ := (HV.out.on hbw).get hkx
      have hsz := short_sizes (HS.out _ (List.getElem_mem hkx))
      have HU := fun W (hb : Below wr.heap.size wr W) => U.psame_any xs[k].2.1 (.slice qa qn qc) xs[k].1.o.p p W hsz.1 (hXi.on hb).1 (U.strsAt_below HP.out (bchain hbw hb) (Nat.le_refl _))
      by_cases he : xs[k].1.o.p = p
      · have HE : Hid (acc ++ [Os.leaf xs[k].1.o.k] = knd p (xs.take (k + 1))) := by
          have h : acc ++ [Os.leaf xs[k].1.o.k] = knd p (xs.take (k + 1)) := by rw [knd_yes hkx he, HA.out]
          exact h
        rw [decide_eq_true he] at HU
        clear HA hsz he
        generalize xs[k] = y at *
        obtain ⟨it, pv, sv⟩ := y
        obtain ⟨hpx, hrx⟩ : U.strsAt wr pv it.o.p ∧ refsIn wr sv it.o.l := hXi
        obtain ⟨pa, pn, pc, rfl⟩ := strs_slice hpx
        obtain ⟨sa, sn, sc, rfl⟩ := refs_slice hrx
        obtain ⟨c0, c1, c2, c3, c4, c5, c6, c7, c8, c9, c10⟩ := hX
        have bA := below_new wr (.cells (icell (it, .slice pa pn pc, .slice sa sn sc)).toArray 68)
        have hB1 := bchain hbw bA
        have HL := leaf_any it.o.k
        generalize Os.leaf it.o.k = z at *
        clear hpx hrx
        go_wp2_with (first
          | (at_builtin; refine append_one (f := ncell) (m := 1) (fun _ => rfl) (Nat.succ_pos 0) (ST := 32) (T := 3) rfl Tryz.underlying32 hi0 hz0 hz1 hz2 rfl (by decide) _ _ rfl w.heap.size (bchain hB2 (below_new w1 (.cells #[.int .i64 z] 3))).size _ acc rfl (own_on (own_on hown (bchain bA hb1)) (below_new w1 (.cells #[.int .i64 z] 3))) _ z rfl (new_num w1 z) (ncell_one z) hroom ?_; intro v2 w3 hown2 hg2)
          | (go_at_call 28; refine (HL _).mono ?_; rintro e w2 ⟨rfl, hw2⟩; have hw2 := hw2.symm; subst hw2)
          | (go_at_call 27; refine (HU _ bA).mono ?_; rintro e w1 ⟨rfl, hb1⟩; have hB2 := bchain hB1 hb1; have i3 := IVar3 hb1)
          | go_in)
        go_roundw
        case rel => exact ⟨k + 1, acc ++ [z], by omega, by go_num, HE, hown2, (bchain hB2 (below_new w1 (.cells #[.int .i64 z] 3))).grown hg2 (bchain hB2 (below_new w1 (.cells #[.int .i64 z] 3))).size (fun g e => (hown.lt g e).1)⟩
        case measure => simp [intOf]; omega
      · have HE : Hid (acc = knd p (xs.take (k + 1))) := by
          have h : acc = knd p (xs.take (k + 1)) := by rw [knd_no hkx he]; exact HA.out
          exact h
        rw [decide_eq_false he] at HU
        clear HA hsz he
        generalize xs[k] = y at *
        obtain ⟨it, pv, sv⟩ := y
        obtain ⟨hpx, hrx⟩ : U.strsAt wr pv it.o.p ∧ refsIn wr sv it.o.l := hXi
        obtain ⟨pa, pn, pc, rfl⟩ := strs_slice hpx
        obtain ⟨sa, sn, sc, rfl⟩ := refs_slice hrx
        obtain ⟨c0, c1, c2, c3, c4, c5, c6, c7, c8, c9, c10⟩ := hX
        have bA := below_new wr (.cells (icell (it, .slice pa pn pc, .slice sa sn sc)).toArray 68)
        have hB1 := bchain hbw bA
        clear hpx hrx
        go_wp2_with (go_at_call 27; refine (HU _ bA).mono ?_; rintro e w1 ⟨rfl, hb1⟩)
        go_roundw
        case rel => exact ⟨k + 1, acc, by omega, by go_num, HE, own_on hown (bchain bA hb1), bchain hB1 hb1⟩
        case measure => simp [intOf]; omega
    · have HE : Hid (acc = knd p xs) := by
        have h := HA.out
        rw [List.take_of_length_le (by rw [← HN.out]; omega)] at h
        exact h
      have hal : acc.length ≤ 1000000 := by
        have h1 := congrArg List.length HE.out
        have h2 := knd_len p xs
        have := HN.out
        omega
      have HC := sortI_any u5 acc w.heap.size w wr hbw (rowR.of_own (cell1_len _) hown) hal
      have hsl : (acc.mergeSort fun x y => decide (x ≤ y)).length ≤ 1000000 := by rw [List.length_mergeSort]; exact hal
      have HS9 := Li.sorted_ints acc
      generalize (acc.mergeSort fun x y => decide (x ≤ y)) = ss at *
      clear HA hown
      go_wp2_with (first
        | (go_at_call 29; refine HC.mono ?_; rintro e w1 ⟨rfl, hr1, hb1⟩)
        | (go_at_call 30; refine (compactI_any u5 ss w.heap.size w w1 hb1 hr1 hsl).mono ?_; rintro e w2 ⟨r, rfl, hr2, hb2⟩))
      go_ret
      exact ⟨_, rfl, by rw [← HE.out, ← HS9]; exact hr2.rows (cell1_len _), hb2⟩

/-- How many parts the longest path has. -/
def deepE (ys : List IE) : Nat := Tr.deep (ys.map (·.1))
theorem deepE_step {ys : List IE} {k : Nat} (hk : k < ys.length) : deepE (ys.take (k + 1)) = max (deepE (ys.take k)) ys[k].1.o.p.length := by
  unfold deepE
  rw [List.map_take, Tr.deep_step _ (by simpa using hk), List.map_take]
  simp only [List.getElem_map]
set_option maxRecDepth 20000 in
set_option maxHeartbeats 2000000 in
theorem deep_any (v : Value) (xs : List IE) (w : World) (hv : itsE w v xs) (hn : xs.length ≤ 1000000) :
    Calls Tryz.prog 19 #[v] w fun e w' => e = .returned (.int .i64 (deepE xs : Int)) ∧ Below w.heap.size w w' := by
  obtain ⟨ao, cap, rfl⟩ := hv.slice
  obtain ⟨n, hn0⟩ : ∃ n, n = xs.length := ⟨_, rfl⟩
  have HN : Hid (n = xs.length) := hn0
  rw [← hn0] at hv hn ⊢
  have HV : Hid (itsE w (.slice ao n cap) xs) := hv
  clear hn0 hv
  go_enter Tryz.func19, Tryz.ntmps19
  go_wp2
  go_loopw [3, 5, 8] (fun d _ i wr => ∃ (k a : Nat), k ≤ n ∧ i = .int .i64 k ∧ d = .int .i64 (a : Int) ∧ Hid (a = deepE (xs.take k)) ∧ Below w.heap.size w wr) (fun _ _ i _ => n - (intOf i).toNat)
  case atStart => exact ⟨0, 0, by omega, rfl, rfl, rfl, Below.refl _ _⟩
  case round =>
    obtain ⟨k, a, hk, rfl, rfl, HA, hbw⟩ := hrel
    by_cases hkn : k < n
    · have hkx : k < xs.length := by rw [← HN.out]; exact hkn
      obtain ⟨ad, rfl, -, hX, hXi⟩ := (HV.out.on hbw).get hkx
      have hd := deepE_step hkx
      rw [← HA.out] at hd
      generalize xs[k] = y at *
      obtain ⟨it, pv, sv⟩ := y
      obtain ⟨hpx, hrx⟩ : U.strsAt wr pv it.o.p ∧ refsIn wr sv it.o.l := hXi
      obtain ⟨pa, pc, rfl⟩ := U.strsAt_len hpx
      obtain ⟨sa, sn, sc, rfl⟩ := refs_slice hrx
      obtain ⟨c0, c1, c2, c3, c4, c5, c6, c7, c8, c9, c10⟩ := hX
      have hd : deepE (xs.take (k + 1)) = max a it.o.p.length := hd
      have bA := below_new wr (.cells (icell (it, .slice pa it.o.p.length pc, .slice sa sn sc)).toArray 68)
      clear hpx hrx HA
      generalize it.o.p.length = b at *
      by_cases hab : a < b
      · have HE : Hid (b = deepE (xs.take (k + 1))) := by
          have h : b = deepE (xs.take (k + 1)) := by rw [hd, Nat.max_eq_right (by omega)]
          exact h
        have hab1 : (a : Int) < (b : Int) := by omega
        have hmx : max (a : Int) (b : Int) = (b : Int) := by omega
        clear hd
        go_wp2
        go_roundw
        case rel => exact ⟨k + 1, b, by omega, by go_num, by go_num, HE, bchain hbw bA⟩
        case measure => simp [intOf]; omega
      · have HE : Hid (a = deepE (xs.take (k + 1))) := by
          have h : a = deepE (xs.take (k + 1)) := by rw [hd, Nat.max_eq_left (by omega)]
          exact h
        have hab1 : ¬ (a : Int) < (b : Int) := by omega
        have hmx : max (a : Int) (b : Int) = (a : Int) := by omega
        clear hd
        go_wp2
        go_roundw
        case rel => exact ⟨k + 1, a, by omega, by go_num, by go_num, HE, bchain hbw bA⟩
        case measure => simp [intOf]; omega
    · have HE : Hid (a = deepE xs) := by
        have h := HA.out
        rw [List.take_of_length_le (by rw [← HN.out]; omega)] at h
        exact h
      go_wp2
      go_ret
      exact ⟨congrArg (fun z : Nat => Ending.returned (.int .i64 (z : Int))) HE.out, hbw⟩
end Go.Proofs.YtmnehekcealjhaaGreat.O
