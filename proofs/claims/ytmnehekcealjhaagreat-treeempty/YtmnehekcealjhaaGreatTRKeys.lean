/- The walk of the document's Keys. -/
import Derived.Test.YtmnehekcealjhaaGreatTKeys
import Derived.Test.YtmnehekcealjhaaGreatRowSet
import Derived.Test.YtmnehekcealjhaaGreatAtPAll
namespace Go.Proofs.YtmnehekcealjhaaGreat.O
open Go.RowKit

theorem own_some {w : World} {B s n : Nat} {e : TypeId} {v : Value} {xs : List Value} (h : w.ownsRow B e s v n xs) (hn : 0 < n) : ∃ g cap, v = .slice (some ⟨g, 0, none⟩) n cap := by
  rcases h.2 with ⟨_, h0⟩ | ⟨g, cap, cur, e, _⟩
  · omega
  · exact ⟨g, cap, e⟩
theorem cell_own1 {α : Type} {enc : α → Value} {w : World} {g : Nat} {l : List α} (h : OwnR w g (cell1 enc) 1 l) {k : Nat} (hk : k < l.length) : w.cell? ⟨g, k, none⟩ = some (enc l[k]) ∧ w.frozen? ⟨g, k, none⟩ = false := by
  obtain ⟨a, b⟩ := h.2 k hk
  have c := a 0 (enc l[k]) rfl
  have d := (b 0 (by omega)).2
  rw [Nat.mul_one, Nat.add_zero] at c d
  exact ⟨c, d⟩
theorem vals_snoc {α : Type} (comp : α → α → Int) (l : List α) (s : α) : Li.vals comp (l ++ [s]) = Li.ins comp s (Li.vals comp l) := by
  unfold Li.vals
  rw [List.foldl_append]
  rfl
theorem lay_here {α : Type} {comp : α → α → Int} (o : Li.Ord comp) {l acc cur : List α} {s : α} {t : Nat} (h : acc = Li.vals comp l) (ha : Li.ahead comp s acc t) (hn : ∀ hk : t < acc.length, 0 < comp acc[t] s) (hs : Li.Shift acc t cur) : cur.set t s = Li.vals comp (l ++ [s]) := by
  rw [vals_snoc, ← h, hs.done s, Li.ahead_here o ha hn]
theorem lay_there {α : Type} {comp : α → α → Int} (o : Li.Ord comp) {l acc : List α} {s : α} {t : Nat} (h : acc = Li.vals comp l) (ht : t < acc.length) (hz : comp acc[t] s = 0) : acc = Li.vals comp (l ++ [s]) := by
  rw [vals_snoc, ← h, Li.ahead_there o (by rw [h]; exact Li.vals_rise o l) ht hz]
theorem next_mem {p : List (List UInt8)} {i : Lv.Item} {s : List UInt8} (h : Tr.next p i = some s) : s ∈ i.o.p := by
  unfold Tr.next at h
  split at h
  · exact List.mem_of_getElem? h
  · cases h

set_option maxRecDepth 20000 in
set_option maxHeartbeats 4000000 in
theorem refKeys_any (v vp : Value) (xs : List IE) (p : List (List UInt8)) (w : World) (hv : itsE w v xs) (hp : U.strsAt w vp p) (hn : xs.length ≤ 1000000) (hs : ShortI xs) :
    Calls Tryz.prog 17 #[v, vp] w fun e w' => ∃ r, e = .returned r ∧ U.strsAt w' r (Li.vals Lib.compareBytes (xs.filterMap fun y => Tr.next p y.1)) ∧ Below w.heap.size w w' := by
  obtain ⟨ao, cap, rfl⟩ := hv.slice
  obtain ⟨qa, qc, rfl⟩ := U.strsAt_len hp
  obtain ⟨i0, hI0, hz0, hz1, hz2⟩ := sinfo9
  obtain ⟨n, hn0⟩ : ∃ n, n = xs.length := ⟨_, rfl⟩
  obtain ⟨m, hm0⟩ : ∃ m, m = p.length := ⟨_, rfl⟩
  have HN : Hid (n = xs.length) := hn0
  have HM : Hid (m = p.length) := hm0
  rw [← hn0] at hv hn ⊢
  rw [← hm0] at hp ⊢
  have HV : Hid (itsE w (.slice ao n cap) xs) := hv
  have HS : Hid (ShortI xs) := hs
  have HP : Hid (U.strsAt w (.slice qa m qc) p) := hp
  clear hn0 hm0 hv hs hp
  go_enter Tryz.func17, Tryz.ntmps17
  go_wp2
  go_loopw [5, 6, 7, 8, 9, 10] (fun out i _ _ _ _ wr => ∃ (k : Nat) (acc : List (List UInt8)), k ≤ n ∧ i = .int .i64 k ∧ Hid (acc = Li.vals Lib.compareBytes ((xs.take k).filterMap fun y => Tr.next p y.1)) ∧ wr.ownsRow w.heap.size 9 1 out acc.length (acc.flatMap scell) ∧ Below w.heap.size w wr) (fun _ i _ _ _ _ _ => n - (intOf i).toNat)
  case atStart => exact ⟨0, [], by omega, rfl, rfl, World.ownsRow_nil _ _ _ _, Below.refl _ _⟩
  case round =>
    obtain ⟨k, acc, hk, rfl, HA, hown, hbw⟩ := hrel
    have hroom : acc.length + 1 ≤ 1000001 := by
      have h1 := congrArg List.length HA.out
      have h2 := fm_len (fun y : IE => Tr.next p y.1) (xs.take k)
      have h3 := Li.vals_len (comp := Lib.compareBytes) ((xs.take k).filterMap fun y => Tr.next p y.1)
      rw [List.length_take] at h2
      omega
    obtain ⟨oa, oc, rfl⟩ := U.strsAt_len (strs_row (rowR.of_own (cell1_len _) hown))
    have hstr : U.strsAt wr (.slice oa acc.length oc) acc := strs_row (rowR.of_own (cell1_len _) hown)
    obtain ⟨j, hj0⟩ : ∃ j, j = acc.length := ⟨_, rfl⟩
    have HJ : Hid (j = acc.length) := hj0
    have HJ1 : Hid (∀ s : List UInt8, (acc ++ [s]).length = j + 1) := by
      have h : ∀ s : List UInt8, (acc ++ [s]).length = j + 1 := fun s => by rw [List.length_append, ← hj0]; rfl
      exact h
    rw [← hj0] at hstr hroom ⊢
    have hown0 : Hid (wr.ownsRow w.heap.size 9 1 (.slice oa j oc) acc.length (acc.flatMap scell)) := by rw [← hj0] at hown; rw [← hj0]; exact hown
    have HSt : Hid (U.strsAt wr (.slice oa j oc) acc) := hstr
    clear hj0 hown hstr
    by_cases hkn : k < n
    · have hkx : k < xs.length := by rw [← HN.out]; exact hkn
      obtain ⟨ad, rfl, -, hX, hXi⟩ := (HV.out.on hbw).get hkx
      have hsz := short_sizes (HS.out _ (List.getElem_mem hkx))
      have HSM : Hid (∀ x ∈ acc, x.length ≤ 2000000) := by
        have h : ∀ x ∈ acc, x.length ≤ 2000000 := fun x hx => by
          rw [HA.out, Li.mem_vals Tr.nord, List.mem_filterMap] at hx
          obtain ⟨y, hy, e⟩ := hx
          exact (short_sizes (HS.out y (List.mem_of_mem_take hy))).2 x (next_mem e)
        exact h
      have HNo : Hid (Tr.next p xs[k].1 = none → acc = Li.vals Lib.compareBytes ((xs.take (k + 1)).filterMap fun y => Tr.next p y.1)) := by
        have h : Tr.next p xs[k].1 = none → acc = Li.vals Lib.compareBytes ((xs.take (k + 1)).filterMap fun y => Tr.next p y.1) := fun h => by rw [next_no hkx h]; exact HA.out
        exact h
      have HYes : Hid (∀ s, Tr.next p xs[k].1 = some s → (∀ t cur, Li.ahead Lib.compareBytes s acc t → (∀ hk : t < acc.length, 0 < Lib.compareBytes acc[t] s) → Li.Shift acc t cur → cur.set t s = Li.vals Lib.compareBytes ((xs.take (k + 1)).filterMap fun y => Tr.next p y.1)) ∧ ∀ t, ∀ ht : t < acc.length, Lib.compareBytes acc[t] s = 0 → acc = Li.vals Lib.compareBytes ((xs.take (k + 1)).filterMap fun y => Tr.next p y.1)) := by
        have h : ∀ s, Tr.next p xs[k].1 = some s → (∀ t cur, Li.ahead Lib.compareBytes s acc t → (∀ hk : t < acc.length, 0 < Lib.compareBytes acc[t] s) → Li.Shift acc t cur → cur.set t s = Li.vals Lib.compareBytes ((xs.take (k + 1)).filterMap fun y => Tr.next p y.1)) ∧ ∀ t, ∀ ht : t < acc.length, Lib.compareBytes acc[t] s = 0 → acc = Li.vals Lib.compareBytes ((xs.take (k + 1)).filterMap fun y => Tr.next p y.1) := fun s hs => by
          rw [next_yes hkx hs]
          exact ⟨fun t cur h1 h2 h3 => lay_here Tr.nord HA.out h1 h2 h3, fun t ht hz => lay_there Tr.nord HA.out ht hz⟩
        exact h
      clear HA
      generalize xs[k] = y at *
      obtain ⟨it, pv, sv⟩ := y
      obtain ⟨hpx, hrx⟩ : U.strsAt wr pv it.o.p ∧ refsIn wr sv it.o.l := hXi
      have hsz1 : it.o.p.length ≤ 2000000 := hsz.1
      obtain ⟨pa, pc, rfl⟩ := U.strsAt_len hpx
      obtain ⟨sa, sn, sc, rfl⟩ := refs_slice hrx
      obtain ⟨c0, c1, c2, c3, c4, c5, c6, c7, c8, c9, c10⟩ := hX
      have HU := fun W (hb : Below wr.heap.size wr W) => U.refUnder_any (.slice pa it.o.p.length pc) (.slice qa m qc) it.o.p p W hsz1 (U.strsAt_below hpx hb (Nat.le_refl _)) (U.strsAt_below HP.out (bchain hbw hb) (Nat.le_refl _))
      have hkn1 : (k : Int) < (n : Int) := by omega
      by_cases hlt : m < it.o.p.length
      · have hltp : p.length < it.o.p.length := by rw [← HM.out]; exact hlt
        have hle : ¬ (it.o.p.length : Int) ≤ (m : Int) := by omega
        cases hu : Pt.under it.o.p p with
        | false =>
          have HE : Hid (acc = Li.vals Lib.compareBytes ((xs.take (k + 1)).filterMap fun y => Tr.next p y.1)) := by have h := HNo.out (next_none2 hu); exact h
          rw [hu] at HU
          clear HYes HNo hpx hrx hsz hsz1
          generalize it.o.p.length = pl at *
          go_wp2_with (go_at_call 42; refine (HU _ (Below.refl _ _)).mono ?_; rintro e w1 ⟨rfl, hb1⟩)
          go_roundw
          case rel => exact ⟨k + 1, acc, by omega, by go_num, HE, own_on hown0.out hb1, bchain hbw hb1⟩
          case measure => simp [intOf]; omega
        | true =>
          obtain ⟨pao, pcap, ep, _, hcp⟩ := id hpx
          obtain ⟨pad, rfl, hcell⟩ := hcp p.length hltp
          obtain ⟨rfl, rfl⟩ : pa = some pad ∧ pc = pcap := by simpa using ep
          have HYY := HYes.out _ (next_some hltp hu)
          have hslen := hsz.2 _ (List.getElem_mem hltp)
          rw [hu] at HU
          obtain ⟨s, hs9⟩ : ∃ s, s = it.o.p[p.length] := ⟨_, rfl⟩
          rw [← hs9] at hcell HYY hslen
          rw [← HM.out] at hcell
          have HIN : Hid (∀ t cur, Li.ahead Lib.compareBytes s acc t → (∀ hk : t < acc.length, 0 < Lib.compareBytes acc[t] s) → Li.Shift acc t cur → cur.set t s = Li.vals Lib.compareBytes ((xs.take (k + 1)).filterMap fun y => Tr.next p y.1)) := HYY.1
          have HIT : Hid (∀ t, ∀ ht : t < acc.length, Lib.compareBytes acc[t] s = 0 → acc = Li.vals Lib.compareBytes ((xs.take (k + 1)).filterMap fun y => Tr.next p y.1)) := HYY.2
          clear HYY HYes HNo hpx hrx hsz hsz1 hcp ep hs9 hltp hu
          generalize it.o.p.length = pl at *
          have hm1 : (0 : Int) ≤ (m : Int) := by omega
          have hm2 : (m : Int) < (pl : Int) := by omega
          have HAh0 : Hid (Li.ahead Lib.compareBytes s acc 0) := by have h := Li.ahead_zero (comp := Lib.compareBytes) s acc; exact h
          go_wp2_with (go_at_call 42; refine (HU _ (Below.refl _ _)).mono ?_; rintro e w1 ⟨rfl, hb1⟩; have hcell1 := keep_cell hb1 hcell; have hB1 := bchain hbw hb1)
          clear hcell hcell1
          go_loopw [9] (fun a wq => ∃ t : Nat, a = .int .i64 t ∧ t ≤ j ∧ Hid (Li.ahead Lib.compareBytes s acc t) ∧ Below w1.heap.size w1 wq) (fun a _ => j - (intOf a).toNat)
          case atStart => exact ⟨0, rfl, by omega, HAh0, Below.refl _ _⟩
          case round =>
            clear HAh0
            obtain ⟨t, rfl, htj, HAt, hbq⟩ := hrel
            have hbQ := bchain hB1 hbq
            have hownQ := own_on hown0.out (bchain hb1 hbq)
            by_cases htlt : t < j
            · have htl : t < acc.length := by rw [← HJ.out]; exact htlt
              obtain ⟨oao, ocap, eo, _, hco⟩ := U.strsAt_below HSt.out (bchain hb1 hbq) (Nat.le_refl _)
              obtain ⟨oad, rfl, hoc⟩ := hco t htl
              obtain ⟨rfl, -⟩ : oa = some oad ∧ oc = ocap := by simp only [Value.slice.injEq] at eo; exact ⟨eo.1, eo.2.2⟩
              have HC := fun W => U.refTexts_list acc[t] s W (HSM.out _ (List.getElem_mem htl))
              have hi0 : (0 : Int) ≤ (t : Int) := by omega
              have hi1 : (t : Int) < (j : Int) := by omega
              clear hco eo
              by_cases hneg : Lib.compareBytes acc[t] s < 0
              · have HAt' : Hid (Li.ahead Lib.compareBytes s acc (t + 1)) := by have h := Li.ahead_step HAt.out htl hneg; exact h
                clear HAt
                generalize acc[t] = x at *
                generalize Lib.compareBytes x s = c at *
                go_wp2_with (go_at_call 43; refine (HC _).mono ?_; rintro e w2 ⟨rfl, hb2⟩)
                go_roundw
                case rel => exact ⟨t + 1, by go_num, by omega, HAt', bchain hbq hb2⟩
                case measure => simp [intOf]; omega
              · by_cases hz : Lib.compareBytes acc[t] s = 0
                · have HE : Hid (acc = Li.vals Lib.compareBytes ((xs.take (k + 1)).filterMap fun y => Tr.next p y.1)) := by have h := HIT.out t htl hz; exact h
                  have hxs : acc[t] = s := (Tr.nord.zero _ _).1 hz
                  rw [hz] at HC
                  rw [hxs] at HC hoc
                  clear hneg hz hxs
                  go_wp2_with (go_at_call 43; refine (HC _).mono ?_; rintro e w2 ⟨rfl, hb2⟩; have hoc2 := keep_cell hb2 hoc)
                  go_roundw
                  case rel => exact ⟨k + 1, acc, by omega, by go_num, HE, own_on hownQ hb2, bchain hbQ hb2⟩
                  case measure => simp [intOf]; omega
                · have HNg : Hid (∀ hk : t < acc.length, 0 < Lib.compareBytes acc[t] s) := by
                    have h : ∀ hk : t < acc.length, 0 < Lib.compareBytes acc[t] s := fun _ => by omega
                    exact h
                  have hbe : (acc[t] == s) = false := beq_eq_false_iff_ne.2 fun e => hz ((Tr.nord.zero _ _).2 e)
                  clear hz
                  generalize acc[t] = x at *
                  generalize Lib.compareBytes x s = c at *
                  go_wp2_with (first
                    | (at_builtin; refine append_one (f := scell) (m := 1) (fun _ => rfl) (Nat.succ_pos 0) (ST := 24) (T := 9) rfl Tryz.underlying24 hI0 hz0 hz1 hz2 rfl (by decide) _ _ rfl w.heap.size (bchain hbQ2 (below_new w2 (.cells #[.string ⟨s.toArray⟩] 9))).size _ acc rfl (own_on hown9 (below_new w2 (.cells #[.string ⟨s.toArray⟩] 9))) _ s rfl (new_cells w2 (scell s) 9) (fun u hu => by rw [List.mem_singleton.1 hu]; rfl) (by rw [← HJ.out]; exact hroom) ?_; intro v2 w3 hown2 hg2; have hb3 := (bchain hbQ2 (below_new w2 (.cells #[.string ⟨s.toArray⟩] 9))).grown hg2 (bchain hbQ2 (below_new w2 (.cells #[.string ⟨s.toArray⟩] 9))).size (fun g e => (hown9.lt g e).1); obtain ⟨g, cap2, rfl⟩ := own_some hown2 (by rw [List.length_append]; simp); rw [HJ1.out s] at hown2 ⊢)
                    | (go_at_call 43; refine (HC _).mono ?_; rintro e w2 ⟨rfl, hb2⟩; have hoc2 := keep_cell hb2 hoc; have hown9 := own_on hownQ hb2; have hbQ2 := bchain hbQ hb2)
                    | go_in)
                  have hst : Hid (Li.Shift acc j (acc ++ [s])) := by have h := Li.Shift.start acc s; rw [← HJ.out] at h; exact h
                  have hown3 : w3.ownsRow w.heap.size 9 1 (.slice (some ⟨g, 0, none⟩) (j + 1) cap2) (acc ++ [s]).length ((acc ++ [s]).flatMap scell) := by rw [HJ1.out s]; exact hown2
                  clear hown2 hg2
                  go_loopw [10] (fun kk wz => ∃ (t2 : Nat) (cur : List (List UInt8)), kk = .int .i64 (t2 : Int) ∧ t ≤ t2 ∧ t2 ≤ j ∧ Hid (Li.Shift acc t2 cur) ∧ wz.ownsRow w.heap.size 9 1 (.slice (some ⟨g, 0, none⟩) (j + 1) cap2) cur.length (cur.flatMap scell) ∧ Below w.heap.size w wz) (fun kk _ => (intOf kk).toNat)
                  case atStart => exact ⟨j, acc ++ [s], by go_num, htj, Nat.le_refl _, hst, hown3, hb3⟩
                  case round =>
                    clear hst hown3 hb3
                    obtain ⟨t2, cur, rfl, ht2, ht2j, hSh, hown3, hb3⟩ := hrel
                    have hcl : cur.length = j + 1 := by have h := hSh.out.1; rw [← HJ.out] at h; exact h
                    obtain ⟨hOr, hcap2, -, hgB, -⟩ := own_cells (cell1_len _) hown3
                    by_cases hgt : t < t2
                    · obtain ⟨t3, rfl⟩ : ∃ t3, t2 = t3 + 1 := ⟨t2 - 1, by omega⟩
                      obtain ⟨h1, h2, e3⟩ := hSh.out.at
                      have hSh' : Hid (Li.Shift acc t3 (cur.set (t3 + 1) acc[t3])) := by have h := hSh.out.step h2; exact h
                      obtain ⟨d0, -⟩ := cell_own1 hOr h1
                      obtain ⟨d1, d2⟩ := cell_own1 hOr (show t3 + 1 < cur.length by omega)
                      rw [e3] at d0
                      have hown4 := own_setRow (cell1_len _) (Nat.succ_pos 0) hown3 (show t3 + 1 < cur.length by omega) acc[t3]
                      have hb4 := below_setCells hgB (scell acc[t3]) ((t3 + 1) * 1) _ hb3
                      rw [Nat.mul_one] at hown4 hb4
                      have hi1 : (t : Int) < (t3 : Int) + 1 := by omega
                      have hi2 : (0 : Int) ≤ (t3 : Int) := by omega
                      have hi3 : (t3 : Int) < (j : Int) + 1 := by omega
                      have hi4 : (t3 : Int) + 1 < (j : Int) + 1 := by omega
                      have hi5 : IntKind.i64.wrap (t3 : Int) = (t3 : Int) := U.wrap_i64 (by omega) (by omega)
                      clear hSh hOr hown3 e3
                      generalize cur.set (t3 + 1) acc[t3] = cur' at *
                      generalize acc[t3] = x at *
                      go_wp2
                      go_roundw
                      case rel => exact ⟨t3, cur', by go_num, by omega, by omega, hSh', hown4, hb4⟩
                      case measure => simp [intOf]
                    · obtain rfl : t2 = t := by omega
                      have hE2 : Hid (cur.set t2 s = Li.vals Lib.compareBytes ((xs.take (k + 1)).filterMap fun y => Tr.next p y.1)) := by have h := HIN.out t2 cur HAt.out HNg.out hSh.out; exact h
                      obtain ⟨d1, d2⟩ := cell_own1 hOr (show t2 < cur.length by omega)
                      have hown4 := own_setRow (cell1_len _) (Nat.succ_pos 0) hown3 (show t2 < cur.length by omega) s
                      have hb4 := below_setCells hgB (scell s) (t2 * 1) _ hb3
                      rw [Nat.mul_one] at hown4 hb4
                      have hi2 : (0 : Int) ≤ (t2 : Int) := by omega
                      have hi3 : (t2 : Int) < (j : Int) + 1 := by omega
                      clear hSh hOr hown3
                      generalize cur.set t2 s = cur' at *
                      go_wp2
                      go_roundw
                      case rel => exact ⟨k + 1, cur', by omega, by go_num, hE2, hown4, hb4⟩
                      case measure => simp [intOf]; omega
            · have hge : ¬ (t : Int) < (j : Int) := by omega
              have HNg : Hid (∀ hk : t < acc.length, 0 < Lib.compareBytes acc[t] s) := by
                have h : ∀ hk : t < acc.length, 0 < Lib.compareBytes acc[t] s := fun hk => by rw [← HJ.out] at hk; omega
                exact h
              go_wp2_with (first
                | (at_builtin; refine append_one (f := scell) (m := 1) (fun _ => rfl) (Nat.succ_pos 0) (ST := 24) (T := 9) rfl Tryz.underlying24 hI0 hz0 hz1 hz2 rfl (by decide) _ _ rfl w.heap.size (bchain hbQ (below_new wr (.cells #[.string ⟨s.toArray⟩] 9))).size _ acc rfl (own_on hownQ (below_new wr (.cells #[.string ⟨s.toArray⟩] 9))) _ s rfl (new_cells wr (scell s) 9) (fun u hu => by rw [List.mem_singleton.1 hu]; rfl) (by rw [← HJ.out]; exact hroom) ?_; intro v2 w3 hown2 hg2; have hb3 := (bchain hbQ (below_new wr (.cells #[.string ⟨s.toArray⟩] 9))).grown hg2 (bchain hbQ (below_new wr (.cells #[.string ⟨s.toArray⟩] 9))).size (fun g e => (hownQ.lt g e).1); obtain ⟨g, cap2, rfl⟩ := own_some hown2 (by rw [List.length_append]; simp); rw [HJ1.out s] at hown2 ⊢)
                | go_in)
              have hst : Hid (Li.Shift acc j (acc ++ [s])) := by have h := Li.Shift.start acc s; rw [← HJ.out] at h; exact h
              have hown3 : w3.ownsRow w.heap.size 9 1 (.slice (some ⟨g, 0, none⟩) (j + 1) cap2) (acc ++ [s]).length ((acc ++ [s]).flatMap scell) := by rw [HJ1.out s]; exact hown2
              clear hown2 hg2
              go_loopw [10] (fun kk wz => ∃ (t2 : Nat) (cur : List (List UInt8)), kk = .int .i64 (t2 : Int) ∧ t ≤ t2 ∧ t2 ≤ j ∧ Hid (Li.Shift acc t2 cur) ∧ wz.ownsRow w.heap.size 9 1 (.slice (some ⟨g, 0, none⟩) (j + 1) cap2) cur.length (cur.flatMap scell) ∧ Below w.heap.size w wz) (fun kk _ => (intOf kk).toNat)
              case atStart => exact ⟨j, acc ++ [s], by go_num, htj, Nat.le_refl _, hst, hown3, hb3⟩
              case round =>
                clear hst hown3 hb3
                obtain ⟨t2, cur, rfl, ht2, ht2j, hSh, hown3, hb3⟩ := hrel
                have hcl : cur.length = j + 1 := by have h := hSh.out.1; rw [← HJ.out] at h; exact h
                obtain ⟨hOr, hcap2, -, hgB, -⟩ := own_cells (cell1_len _) hown3
                by_cases hgt : t < t2
                · exfalso; omega
                · obtain rfl : t2 = t := by omega
                  have hE2 : Hid (cur.set t2 s = Li.vals Lib.compareBytes ((xs.take (k + 1)).filterMap fun y => Tr.next p y.1)) := by have h := HIN.out t2 cur HAt.out HNg.out hSh.out; exact h
                  obtain ⟨d1, d2⟩ := cell_own1 hOr (show t2 < cur.length by omega)
                  have hown4 := own_setRow (cell1_len _) (Nat.succ_pos 0) hown3 (show t2 < cur.length by omega) s
                  have hb4 := below_setCells hgB (scell s) (t2 * 1) _ hb3
                  rw [Nat.mul_one] at hown4 hb4
                  have hi2 : (0 : Int) ≤ (t2 : Int) := by omega
                  have hi3 : (t2 : Int) < (j : Int) + 1 := by omega
                  clear hSh hOr hown3
                  generalize cur.set t2 s = cur' at *
                  go_wp2
                  go_roundw
                  case rel => exact ⟨k + 1, cur', by omega, by go_num, hE2, hown4, hb4⟩
                  case measure => simp [intOf]; omega
      · have HE : Hid (acc = Li.vals Lib.compareBytes ((xs.take (k + 1)).filterMap fun y => Tr.next p y.1)) := by have h := HNo.out (next_none1 (by rw [← HM.out]; exact hlt)); exact h
        have hle : (it.o.p.length : Int) ≤ (m : Int) := by omega
        clear HYes HNo hpx hrx hsz hsz1 HU
        generalize it.o.p.length = pl at *
        go_wp2
        go_roundw
        case rel => exact ⟨k + 1, acc, by omega, by go_num, HE, hown0.out, hbw⟩
        case measure => simp [intOf]; omega
    · have HE : Hid (acc = Li.vals Lib.compareBytes (xs.filterMap fun y => Tr.next p y.1)) := by
        have h := HA.out
        rw [List.take_of_length_le (by rw [← HN.out]; omega)] at h
        exact h
      go_wp2
      go_ret
      exact ⟨_, rfl, by rw [← HE.out]; exact HSt.out, hbw⟩
end Go.Proofs.YtmnehekcealjhaaGreat.O
