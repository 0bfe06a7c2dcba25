/- The walks of the document's At, Under and Refs, of live's Refs, of the statement's has and the document's SameRefs. -/
import Derived.Test.YtbeinicbkbkbpaaAtPAll
import Derived.Test.YtbeinicbkbkbpaaTxnCatAll
namespace Go.Proofs.Ytbeinicbkbkbpaa.O
open Go.RowKit

theorem refLeaf_any (k : Int) (w : World) : Calls Try.prog 43 #[.int .i64 k] w fun e w' => e = .returned (.int .i64 (Os.leaf k)) ∧ w' = w := by
  rcases kinds k with rfl | rfl | rfl | rfl | rfl | ⟨e1, e2, e3, e4, e5, h1, h2, h3, h4, h5⟩
  rotate_right
  · rw [leaf_else h1 h2 h3 h4]
    clear h1 h2 h3 h4 h5
    go_enter Try.func43, Try.ntmps43
    go_wp2
    go_ret
    exact ⟨rfl, rfl⟩
  all_goals
    go_enter Try.func43, Try.ntmps43
    go_wp2
    go_ret
    exact ⟨rfl, rfl⟩
theorem filter_yes {P : IE → Bool} {xs : List IE} {k : Nat} (hk : k < xs.length) (h : P xs[k] = true) : (xs.take (k + 1)).filter P = (xs.take k).filter P ++ [xs[k]] := by
  rw [List.take_succ_eq_append_getElem hk, List.filter_append]
  simp [h]
theorem filter_no {P : IE → Bool} {xs : List IE} {k : Nat} (hk : k < xs.length) (h : P xs[k] = false) : (xs.take (k + 1)).filter P = (xs.take k).filter P := by
  rw [List.take_succ_eq_append_getElem hk, List.filter_append]
  simp [h]
theorem filter_len (P : IE → Bool) (xs : List IE) (k : Nat) : ((xs.take k).filter P).length ≤ k := Nat.le_trans (List.length_filter_le _ _) (by rw [List.length_take]; omega)

set_option maxRecDepth 20000 in
set_option maxHeartbeats 2000000 in
theorem refUnderL_any (v vp : Value) (xs : List IE) (p : List (List UInt8)) (w : World) (hv : itsE w v xs) (hp : U.strsAt w vp p) (hn : xs.length ≤ 1000000) (hpn : p.length ≤ 2000000) (hs : ShortI xs) :
    Calls Try.prog 17 #[v, vp] w fun e w' => ∃ r, e = .returned r ∧ itsE w' r (xs.filter fun x => Pt.under x.1.o.p p) ∧ Below w.heap.size w w' := by
  obtain ⟨ao, cap, rfl⟩ := hv.slice
  obtain ⟨qa, qn, qc, rfl⟩ := strs_slice hp
  obtain ⟨i0, hi0, hz0, hz1, hz2⟩ := iinfo81
  obtain ⟨n, hn0⟩ : ∃ n, n = xs.length := ⟨_, rfl⟩
  have HN : Hid (n = xs.length) := hn0
  rw [← hn0] at hv hn ⊢
  have HV : Hid (itsE w (.slice ao n cap) xs) := hv
  have HS : Hid (ShortI xs) := hs
  have HP : Hid (U.strsAt w (.slice qa qn qc) p) := hp
  obtain ⟨P, hP⟩ : ∃ P : IE → Bool, P = fun x => Pt.under x.1.o.p p := ⟨_, rfl⟩
  rw [← hP]
  have HPe : Hid (∀ x, P x = Pt.under x.1.o.p p) := fun x => by rw [hP]
  clear hn0 hv hs hp hP
  go_enter Try.func17, Try.ntmps17
  go_wp2
  go_loopw [5, 6] (fun out i wr => ∃ (k : Nat) (acc : List IE), k ≤ n ∧ i = .int .i64 k ∧ Hid (acc = (xs.take k).filter P) ∧ wr.ownsRow w.heap.size 81 11 out acc.length (acc.flatMap icell) ∧ Below w.heap.size w wr) (fun _ i _ => n - (intOf i).toNat)
  case atStart => exact ⟨0, [], by omega, rfl, rfl, World.ownsRow_nil _ _ _ _, Below.refl _ _⟩
  case round =>
    obtain ⟨k, acc, hk, rfl, HA, hown, hbw⟩ := hrel
    by_cases hkn : k < n
    · have hkx : k < xs.length := by rw [← HN.out]; exact hkn
      obtain ⟨ad, rfl, -, hX, hXi⟩ := (HV.out.on hbw).get hkx
      have hsh := HS.out _ (List.getElem_mem hkx)
      have HYes : Hid (P xs[k] = true → acc ++ [xs[k]] = (xs.take (k + 1)).filter P) := by
        have h : P xs[k] = true → acc ++ [xs[k]] = (xs.take (k + 1)).filter P := fun h => by rw [filter_yes hkx h, HA.out]
        exact h
      have HNo : Hid (P xs[k] = false → acc = (xs.take (k + 1)).filter P) := by
        have h : P xs[k] = false → acc = (xs.take (k + 1)).filter P := fun h => by rw [filter_no hkx h]; exact HA.out
        exact h
      have hroom : acc.length + 1 ≤ 1000001 := by
        have := filter_len P xs k
        have h2 := congrArg List.length HA.out
        omega
      generalize xs[k] = x at *
      obtain ⟨it, pv, sv⟩ := x
      obtain ⟨pa, pn, pc, rfl⟩ := strs_slice hXi.1
      obtain ⟨sa, sn, sc, rfl⟩ := refs_slice hXi.2
      have hsh : Os.short it.o = true := hsh
      have hlen : it.o.p.length ≤ 2000000 := by have := (short_parts hsh).1.1; omega
      have hz : ∀ x ∈ it.o.p, x.length ≤ 2000000 := fun x hx => by have := (short_parts hsh).1.2 x hx; omega
      have _h9 := hpn
      have HU := fun W (hb : Below wr.heap.size wr W) => U.refUnder_any (.slice pa pn pc) (.slice qa qn qc) it.o.p p W hlen (hXi.on hb).1 (U.strsAt_below HP.out (bchain hbw hb) (Nat.le_refl _))
      have hone := icell_one hXi
      have hi9 : (0 : Int) ≤ (k : Int) := by omega
      have hi8 : (k : Int) < (n : Int) := by omega
      have hPx := HPe.out ((it, .slice pa pn pc, .slice sa sn sc) : IE)
      obtain ⟨c0, c1, c2, c3, c4, c5, c6, c7, c8, c9, c10⟩ := hX
      clear HA hsh hlen hz hXi
      cases hc : Pt.under it.o.p p with
      | true =>
        rw [hc] at HU
        have HE : Hid (acc ++ [((it, .slice pa pn pc, .slice sa sn sc) : IE)] = (xs.take (k + 1)).filter P) := HYes.out (by rw [hPx]; exact hc)
        clear HYes HNo hPx
        go_wp2_with (first
          | (go_at_call 47; refine (HU _ (Below.refl _ _)).mono ?_; rintro e w1 ⟨rfl, hb1⟩; obtain ⟨c0, c1, c2, c3, c4, c5, c6, c7, c8, c9, c10⟩ := (IcAt.mk c0 c1 c2 c3 c4 c5 c6 c7 c8 c9 c10 : IcAt wr (ad.add (k * 11)) ((it, .slice pa pn pc, .slice sa sn sc) : IE)).on hb1)
          | (at_builtin; refine append_item (ST := 30) (T := 81) rfl Try.underlying30 hi0 hz0 hz1 hz2 rfl _ _ rfl w.heap.size (bchain hbw (bchain hb1 (below_new _ (.cells (icell ((it, .slice pa pn pc, .slice sa sn sc) : IE)).toArray 81)))).size _ acc rfl (own_on hown (bchain hb1 (below_new _ (.cells (icell ((it, .slice pa pn pc, .slice sa sn sc) : IE)).toArray 81)))) _ ((it, .slice pa pn pc, .slice sa sn sc) : IE) rfl (new_item w1 ((it, .slice pa pn pc, .slice sa sn sc) : IE) 81) hone hroom ?_; intro v2 w3 hown2 hg2)
          | go_in)
        go_roundw
        case rel => exact ⟨k + 1, acc ++ [((it, .slice pa pn pc, .slice sa sn sc) : IE)], by omega, by go_num, HE, hown2, (bchain hbw (bchain hb1 (below_new _ (.cells (icell ((it, .slice pa pn pc, .slice sa sn sc) : IE)).toArray 81)))).grown hg2 (bchain hbw (bchain hb1 (below_new _ (.cells (icell ((it, .slice pa pn pc, .slice sa sn sc) : IE)).toArray 81)))).size (fun g e => (hown.lt g e).1)⟩
        case measure => simp [intOf]; omega
      | false =>
        rw [hc] at HU
        have HE : Hid (acc = (xs.take (k + 1)).filter P) := HNo.out (by rw [hPx]; exact hc)
        clear HYes HNo hPx
        go_wp2_with (first
          | (go_at_call 47; refine (HU _ (Below.refl _ _)).mono ?_; rintro e w1 ⟨rfl, hb1⟩; obtain ⟨c0, c1, c2, c3, c4, c5, c6, c7, c8, c9, c10⟩ := (IcAt.mk c0 c1 c2 c3 c4 c5 c6 c7 c8 c9 c10 : IcAt wr (ad.add (k * 11)) ((it, .slice pa pn pc, .slice sa sn sc) : IE)).on hb1)
          | go_in)
        go_roundw
        case rel => exact ⟨k + 1, acc, by omega, by go_num, HE, own_on hown (hb1), bchain hbw (hb1)⟩
        case measure => simp [intOf]; omega
    · have HE : Hid (acc = xs.filter P) := by
        have h := HA.out
        rw [List.take_of_length_le (by rw [← HN.out]; omega)] at h
        exact h
      go_wp2
      go_ret
      refine ⟨_, rfl, ?_, hbw⟩
      rw [← HE.out]
      refine itsE_own hown fun x hx => ?_
      rw [HE.out] at hx
      exact (HV.out.2 x (List.mem_filter.1 hx).1).on hbw

set_option maxRecDepth 20000 in
set_option maxHeartbeats 2000000 in
theorem refAt_any (v vp : Value) (xs : List IE) (p : List (List UInt8)) (leaf : Int) (w : World) (hv : itsE w v xs) (hp : U.strsAt w vp p) (hn : xs.length ≤ 1000000) (hpn : p.length ≤ 2000000) (hs : ShortI xs) :
    Calls Try.prog 15 #[v, vp, .int .i64 leaf] w fun e w' => ∃ r, e = .returned r ∧ itsE w' r (xs.filter fun x => isAt p leaf x.1) ∧ Below w.heap.size w w' := by
  obtain ⟨ao, cap, rfl⟩ := hv.slice
  obtain ⟨qa, qn, qc, rfl⟩ := strs_slice hp
  obtain ⟨i0, hi0, hz0, hz1, hz2⟩ := iinfo81
  obtain ⟨n, hn0⟩ : ∃ n, n = xs.length := ⟨_, rfl⟩
  have HN : Hid (n = xs.length) := hn0
  rw [← hn0] at hv hn ⊢
  have HV : Hid (itsE w (.slice ao n cap) xs) := hv
  have HS : Hid (ShortI xs) := hs
  have HP : Hid (U.strsAt w (.slice qa qn qc) p) := hp
  obtain ⟨P, hP⟩ : ∃ P : IE → Bool, P = fun x => isAt p leaf x.1 := ⟨_, rfl⟩
  rw [← hP]
  have HPe : Hid (∀ x, P x = isAt p leaf x.1) := fun x => by rw [hP]
  clear hn0 hv hs hp hP
  go_enter Try.func15, Try.ntmps15
  go_wp2
  go_loopw [7, 8] (fun out i wr => ∃ (k : Nat) (acc : List IE), k ≤ n ∧ i = .int .i64 k ∧ Hid (acc = (xs.take k).filter P) ∧ wr.ownsRow w.heap.size 81 11 out acc.length (acc.flatMap icell) ∧ Below w.heap.size w wr) (fun _ i _ => n - (intOf i).toNat)
  case atStart => exact ⟨0, [], by omega, rfl, rfl, World.ownsRow_nil _ _ _ _, Below.refl _ _⟩
  case round =>
    obtain ⟨k, acc, hk, rfl, HA, hown, hbw⟩ := hrel
    by_cases hkn : k < n
    · have hkx : k < xs.length := by rw [← HN.out]; exact hkn
      obtain ⟨ad, rfl, -, hX, hXi⟩ := (HV.out.on hbw).get hkx
      have hsh := HS.out _ (List.getElem_mem hkx)
      have HYes : Hid (P xs[k] = true → acc ++ [xs[k]] = (xs.take (k + 1)).filter P) := by
        have h : P xs[k] = true → acc ++ [xs[k]] = (xs.take (k + 1)).filter P := fun h => by rw [filter_yes hkx h, HA.out]
        exact h
      have HNo : Hid (P xs[k] = false → acc = (xs.take (k + 1)).filter P) := by
        have h : P xs[k] = false → acc = (xs.take (k + 1)).filter P := fun h => by rw [filter_no hkx h]; exact HA.out
        exact h
      have hroom : acc.length + 1 ≤ 1000001 := by
        have := filter_len P xs k
        have h2 := congrArg List.length HA.out
        omega
      generalize xs[k] = x at *
      obtain ⟨it, pv, sv⟩ := x
      obtain ⟨pa, pn, pc, rfl⟩ := strs_slice hXi.1
      obtain ⟨sa, sn, sc, rfl⟩ := refs_slice hXi.2
      have hsh : Os.short it.o = true := hsh
      have hlen : it.o.p.length ≤ 2000000 := by have := (short_parts hsh).1.1; omega
      have hz : ∀ x ∈ it.o.p, x.length ≤ 2000000 := fun x hx => by have := (short_parts hsh).1.2 x hx; omega
      have HL := fun W => refLeaf_any it.o.k W
      have HC := fun W (hb : Below wr.heap.size wr W) => U.refCompare_any (.slice pa pn pc) (.slice qa qn qc) it.o.p p W hlen hpn hz (hXi.on hb).1 (U.strsAt_below HP.out (bchain hbw hb) (Nat.le_refl _))
      have hone := icell_one hXi
      have hi9 : (0 : Int) ≤ (k : Int) := by omega
      have hi8 : (k : Int) < (n : Int) := by omega
      have hPx := HPe.out ((it, .slice pa pn pc, .slice sa sn sc) : IE)
      obtain ⟨c0, c1, c2, c3, c4, c5, c6, c7, c8, c9, c10⟩ := hX
      clear HA hsh hlen hz hXi
      by_cases hlf : Os.leaf it.o.k = leaf
      · have hlb : (Os.leaf it.o.k == leaf) = true := by rw [hlf]; simp
        by_cases hc : it.o.p = p
        · have hcz : Pt.comp it.o.p p = 0 := by rw [hc]; exact Pt.comp_self p
          rw [hcz] at HC
          have HE : Hid (acc ++ [((it, .slice pa pn pc, .slice sa sn sc) : IE)] = (xs.take (k + 1)).filter P) := HYes.out (by rw [hPx]; exact decide_eq_true ⟨hlf, hc⟩)
          clear HYes HNo hPx
          go_wp2_with (first
            | (go_at_call 43; refine (HL _).mono ?_; rintro e w9 ⟨rfl, hw9⟩; have hw9 := hw9.symm; subst hw9)
            | (go_at_call 44; refine (HC _ (Below.refl _ _)).mono ?_; rintro e w1 ⟨rfl, hb1⟩; obtain ⟨c0, c1, c2, c3, c4, c5, c6, c7, c8, c9, c10⟩ := (IcAt.mk c0 c1 c2 c3 c4 c5 c6 c7 c8 c9 c10 : IcAt wr (ad.add (k * 11)) ((it, .slice pa pn pc, .slice sa sn sc) : IE)).on hb1)
            | (at_builtin; refine append_item (ST := 30) (T := 81) rfl Try.underlying30 hi0 hz0 hz1 hz2 rfl _ _ rfl w.heap.size (bchain hbw (bchain hb1 (below_new _ (.cells (icell ((it, .slice pa pn pc, .slice sa sn sc) : IE)).toArray 81)))).size _ acc rfl (own_on hown (bchain hb1 (below_new _ (.cells (icell ((it, .slice pa pn pc, .slice sa sn sc) : IE)).toArray 81)))) _ ((it, .slice pa pn pc, .slice sa sn sc) : IE) rfl (new_item w1 ((it, .slice pa pn pc, .slice sa sn sc) : IE) 81) hone hroom ?_; intro v2 w3 hown2 hg2)
            | go_in)
          go_roundw
          case rel => exact ⟨k + 1, acc ++ [((it, .slice pa pn pc, .slice sa sn sc) : IE)], by omega, by go_num, HE, hown2, (bchain hbw (bchain hb1 (below_new _ (.cells (icell ((it, .slice pa pn pc, .slice sa sn sc) : IE)).toArray 81)))).grown hg2 (bchain hbw (bchain hb1 (below_new _ (.cells (icell ((it, .slice pa pn pc, .slice sa sn sc) : IE)).toArray 81)))).size (fun g e => (hown.lt g e).1)⟩
          case measure => simp [intOf]; omega
        · have hcz : (Pt.comp it.o.p p == 0) = false := beq_eq_false_iff_ne.2 fun q => hc (Pt.comp_zero q)
          generalize Pt.comp it.o.p p = z at *
          have HE : Hid (acc = (xs.take (k + 1)).filter P) := HNo.out (by rw [hPx]; exact decide_eq_false fun q => hc q.2)
          clear HYes HNo hPx
          go_wp2_with (first
            | (go_at_call 43; refine (HL _).mono ?_; rintro e w9 ⟨rfl, hw9⟩; have hw9 := hw9.symm; subst hw9)
            | (go_at_call 44; refine (HC _ (Below.refl _ _)).mono ?_; rintro e w1 ⟨rfl, hb1⟩; obtain ⟨c0, c1, c2, c3, c4, c5, c6, c7, c8, c9, c10⟩ := (IcAt.mk c0 c1 c2 c3 c4 c5 c6 c7 c8 c9 c10 : IcAt wr (ad.add (k * 11)) ((it, .slice pa pn pc, .slice sa sn sc) : IE)).on hb1)
            | go_in)
          go_roundw
          case rel => exact ⟨k + 1, acc, by omega, by go_num, HE, own_on hown (hb1), bchain hbw (hb1)⟩
          case measure => simp [intOf]; omega
      · have hlb : (Os.leaf it.o.k == leaf) = false := beq_eq_false_iff_ne.2 hlf
        have HE : Hid (acc = (xs.take (k + 1)).filter P) := HNo.out (by rw [hPx]; exact decide_eq_false fun q => hlf q.1)
        clear HYes HNo hPx
        go_wp2_with (first
          | (go_at_call 43; refine (HL _).mono ?_; rintro e w9 ⟨rfl, hw9⟩; have hw9 := hw9.symm; subst hw9)
          | go_in)
        go_roundw
        case rel => exact ⟨k + 1, acc, by omega, by go_num, HE, own_on hown (Below.refl _ _), bchain hbw (Below.refl _ _)⟩
        case measure => simp [intOf]; omega
    · have HE : Hid (acc = xs.filter P) := by
        have h := HA.out
        rw [List.take_of_length_le (by rw [← HN.out]; omega)] at h
        exact h
      go_wp2
      go_ret
      refine ⟨_, rfl, ?_, hbw⟩
      rw [← HE.out]
      refine itsE_own hown fun x hx => ?_
      rw [HE.out] at hx
      exact (HV.out.2 x (List.mem_filter.1 hx).1).on hbw
end Go.Proofs.Ytbeinicbkbkbpaa.O
