/- The walk of the document's Leaves. -/
import Derived.Test.YthlhopdlkkeohaaGreatDoorTLeavesAll
import Derived.Test.YthlhopdlkkeohaaGreatDoorESamePAll
import Derived.Test.YthlhopdlkkeohaaGreatDoorRefsAll
namespace Go.Proofs.YthlhopdlkkeohaaGreatDoor.O
open Go.RowKit

theorem linfo78 : ∃ i0, Tryz.prog.info? 89 = some i0 ∧ i0.zero = some (.agg #[.slice none 0 0, .int .i64 0]) ∧ i0.size = 2 ∧ i0.bytes = 32 := info_parts (by kernel_rfl)
theorem lsize78 {cs : List Value} (h : cs.length = 2) : (Tryz.prog.info? 89).map (·.size) = some cs.length := by rw [h]; kernel_rfl
theorem lay_hereL {l : List Tr.Leaf} {acc cur : List LE} {X : LE} {t : Nat} (h : acc.map Prod.fst = Li.vals Tr.lcomp l) (ha : Li.ahead Tr.lcomp X.1 (acc.map Prod.fst) t) (hn : ∀ hk : t < acc.length, 0 < Tr.lcomp acc[t].1 X.1) (hs : Li.Shift acc t cur) : (cur.set t X).map Prod.fst = Li.vals Tr.lcomp (l ++ [X.1]) := by
  rw [vals_snoc, ← h, hs.done X, Li.ahead_here Tr.lord ha fun hk => ?_]
  · simp
  · have := hn (by simpa using hk)
    simpa using this
theorem lay_thereL {l : List Tr.Leaf} {acc : List LE} {x : Tr.Leaf} {t : Nat} (h : acc.map Prod.fst = Li.vals Tr.lcomp l) (ht : t < acc.length) (hz : Tr.lcomp acc[t].1 x = 0) : acc.map Prod.fst = Li.vals Tr.lcomp (l ++ [x]) :=
  lay_there Tr.lord h (t := t) (by simpa using ht) (by simpa using hz)
theorem leaf_step {xs : List IE} {k : Nat} (hk : k < xs.length) : (xs.take (k + 1)).map (fun y => Tr.leafOf y.1) = (xs.take k).map (fun y => Tr.leafOf y.1) ++ [Tr.leafOf xs[k].1] := by
  rw [List.take_succ_eq_append_getElem hk, List.map_append]
  rfl
theorem OwnR.cellsL {w : World} {g : Nat} {l : List LE} (h : OwnR w g lcell 2 l) {k : Nat} (hk : k < l.length) :
    w.cell? ⟨g, k * 2, none⟩ = some l[k].2 ∧ w.cell? ⟨g, k * 2 + 1, none⟩ = some (.int .i64 l[k].1.2) := h.cells2 hk
/-- The variable's block is not the row's that append told of. -/
theorem row_far {w w' : World} {B vb g n cap : Nat} {T : TypeId} {cs : Array Value} {r : Value} {xs : List Value} (hcs : cs.size = 2) (hv : w.heap[vb]? = some (.cells cs T (0, 0))) (hg : w.grownBy w' r.ownBlock) (hr : r.ownBlock ≠ some vb) (h : w'.ownsRow B T 2 (.slice (some ⟨g, 0, none⟩) n cap) n xs) (hn0 : 0 < n) (hc : n = 1 → vb < B) : g ≠ vb := by
  rintro rfl
  have hv' := (hg.block g (heap_lt9 hv) (Ne.symm hr)).trans hv
  rcases h.2 with ⟨e, _⟩ | ⟨g', cap', cur, e, hbg, hg', r1, r2, r3, r4⟩
  · cases e
  · cases e
    rw [hv'] at hg'
    have e1 := Option.some.inj hg'
    injection e1 with e2 _ _
    rw [← e2, hcs] at r3
    have hb : n = 1 := by omega
    have := hc hb
    omega

set_option maxRecDepth 20000 in
set_option maxHeartbeats 8000000 in
theorem refLeaves_any (v : Value) (xs : List IE) (w : World) (hv : itsE w v xs) (hn : xs.length ≤ 1000000) (hs : ShortI xs) :
    Calls Tryz.prog 37 #[v] w fun e w' => ∃ r zs, e = .returned r ∧ zs.map Prod.fst = Tr.leaves (xs.map (·.1)) ∧ lvsE w' r zs ∧ Below w.heap.size w w' := by
  obtain ⟨ao, cap, rfl⟩ := hv.slice
  obtain ⟨i0, hI0, hz0, hz1, hz2⟩ := linfo78
  obtain ⟨n, hn0⟩ : ∃ n, n = xs.length := ⟨_, rfl⟩
  have HN : Hid (n = xs.length) := hn0
  rw [← hn0] at hv hn ⊢
  have HV : Hid (itsE w (.slice ao n cap) xs) := hv
  have HS : Hid (ShortI xs) := hs
  clear hn0 hv hs
  go_enter Tryz.func37, Tryz.ntmps37
  go_wp2
  go_loopw [3, 4, 5, 6, 7] (fun out i _ _ _ wr => ∃ (k : Nat) (acc : List LE), k ≤ n ∧ i = .int .i64 k ∧ Hid (acc.map Prod.fst = Li.vals Tr.lcomp ((xs.take k).map fun y => Tr.leafOf y.1)) ∧ Hid (∀ x ∈ acc, LOk w x) ∧ wr.ownsRow w.heap.size 89 2 out acc.length (acc.flatMap lcell) ∧ Hid (acc = [] → out = .slice none 0 0) ∧ Below w.heap.size w wr) (fun _ i _ _ _ _ => n - (intOf i).toNat)
  case atStart => exact ⟨0, [], by omega, rfl, rfl, fun x hx => by simp at hx, World.ownsRow_nil _ _ _ _, fun _ => rfl, Below.refl _ _⟩
  case round =>
    obtain ⟨k, acc, hk, rfl, HA, HLo, hown, HNil, hbw⟩ := hrel
    obtain ⟨oa, oc, rfl⟩ := (rowR.of_own lcell_len hown).slice
    have hroom : acc.length + 1 ≤ 1000001 := by
      have h1 := congrArg List.length HA.out
      have h3 := Li.vals_len (comp := Tr.lcomp) ((xs.take k).map fun y => Tr.leafOf y.1)
      rw [List.length_map, List.length_take] at h3
      rw [List.length_map] at h1
      omega
    have hrow := (rowR.of_own lcell_len hown).rows lcell_len
    obtain ⟨j, hj0⟩ : ∃ j, j = acc.length := ⟨_, rfl⟩
    have HJ : Hid (j = acc.length) := hj0
    have HJ1 : Hid (∀ s : LE, (acc ++ [s]).length = j + 1) := by
      have h : ∀ s : LE, (acc ++ [s]).length = j + 1 := fun s => by rw [List.length_append, ← hj0]; rfl
      exact h
    rw [← hj0] at hroom hrow HNil ⊢
    have hown0 : Hid (wr.ownsRow w.heap.size 89 2 (.slice oa j oc) acc.length (acc.flatMap lcell)) := by rw [← hj0] at hown; rw [← hj0]; exact hown
    have HE0 : Hid (lvsE wr (.slice oa j oc) acc) := ⟨hrow, fun x hx => (HLo.out x hx).on hbw⟩
    clear hj0 hown hrow
    by_cases hkn : k < n
    · have hkx : k < xs.length := by rw [← HN.out]; exact hkn
      obtain ⟨ad, rfl, -, hX, hXi⟩ := (HV.out.on hbw).get hkx
      have hXw : IOk w xs[k] := HV.out.2 _ (List.getElem_mem hkx)
      have hsz := short_sizes (HS.out _ (List.getElem_mem hkx))
      have HFi : Hid (∀ x ∈ acc, LFine x.1) := by
        have h : ∀ x ∈ acc, LFine x.1 := fun x hx => by
          have h1 : x.1 ∈ acc.map Prod.fst := List.mem_map.2 ⟨x, hx, rfl⟩
          rw [HA.out, Li.mem_vals Tr.lord, List.mem_map] at h1
          obtain ⟨y, hy, e⟩ := h1
          rw [← e]
          have h2 := short_sizes (HS.out y (List.mem_of_mem_take hy))
          exact ⟨leaf_small _, h2.1, h2.2⟩
        exact h
      have hst := leaf_step hkx
      have HYY : (∀ (X : LE) (_ : X.1 = Tr.leafOf xs[k].1) t cur, Li.ahead Tr.lcomp X.1 (acc.map Prod.fst) t → (∀ hk : t < acc.length, 0 < Tr.lcomp acc[t].1 X.1) → Li.Shift acc t cur → (cur.set t X).map Prod.fst = Li.vals Tr.lcomp ((xs.take (k + 1)).map fun y => Tr.leafOf y.1)) ∧ ∀ t, ∀ ht : t < acc.length, Tr.lcomp acc[t].1 (Tr.leafOf xs[k].1) = 0 → acc.map Prod.fst = Li.vals Tr.lcomp ((xs.take (k + 1)).map fun y => Tr.leafOf y.1) := by
        rw [hst]
        exact ⟨fun X e t cur h1 h2 h3 => by rw [← e]; exact lay_hereL HA.out h1 h2 h3, fun t ht hz => lay_thereL HA.out ht hz⟩
      clear HA hst
      generalize xs[k] = y at *
      obtain ⟨it, pv, sv⟩ := y
      obtain ⟨hpx, hrx⟩ : U.strsAt wr pv it.o.p ∧ refsIn wr sv it.o.l := hXi
      have hpw : U.strsAt w pv it.o.p := hXw.1
      obtain ⟨pa, pn, pc, rfl⟩ := strs_slice hpx
      obtain ⟨sa, sn, sc, rfl⟩ := refs_slice hrx
      obtain ⟨c0, c1, c2, c3, c4, c5, c6, c7, c8, c9, c10⟩ := hX
      have HL := refLeaf_any it.o.k
      have hzr := leaf_small it.o.k
      have hsz1 : it.o.p.length ≤ 2000000 := hsz.1
      have hsz2 : ∀ x ∈ it.o.p, x.length ≤ 2000000 := hsz.2
      have HYY : (∀ (X : LE) (_ : X.1 = (it.o.p, Os.leaf it.o.k)) t cur, Li.ahead Tr.lcomp X.1 (acc.map Prod.fst) t → (∀ hk : t < acc.length, 0 < Tr.lcomp acc[t].1 X.1) → Li.Shift acc t cur → (cur.set t X).map Prod.fst = Li.vals Tr.lcomp ((xs.take (k + 1)).map fun y => Tr.leafOf y.1)) ∧ ∀ t, ∀ ht : t < acc.length, Tr.lcomp acc[t].1 (it.o.p, Os.leaf it.o.k) = 0 → acc.map Prod.fst = Li.vals Tr.lcomp ((xs.take (k + 1)).map fun y => Tr.leafOf y.1) := HYY
      have hi0 : (0 : Int) ≤ (k : Int) := by omega
      have hi1 : (k : Int) < (n : Int) := by omega
      generalize Os.leaf it.o.k = z at *
      have HIN : Hid (∀ t cur, Li.ahead Tr.lcomp (it.o.p, z) (acc.map Prod.fst) t → (∀ hk : t < acc.length, 0 < Tr.lcomp acc[t].1 (it.o.p, z)) → Li.Shift acc t cur → (cur.set t (((it.o.p, z), .slice pa pn pc) : LE)).map Prod.fst = Li.vals Tr.lcomp ((xs.take (k + 1)).map fun y => Tr.leafOf y.1)) := by
        have h := HYY.1 (((it.o.p, z), .slice pa pn pc) : LE) rfl
        exact h
      have HIT : Hid (∀ t, ∀ ht : t < acc.length, Tr.lcomp acc[t].1 (it.o.p, z) = 0 → acc.map Prod.fst = Li.vals Tr.lcomp ((xs.take (k + 1)).map fun y => Tr.leafOf y.1)) := HYY.2
      have HXok : Hid (LOk w (((it.o.p, z), .slice pa pn pc) : LE)) := hpw
      have HXf : Hid (LFine (it.o.p, z)) := ⟨hzr, hsz1, hsz2⟩
      clear hpx hrx hXw hpw HYY hzr hsz hsz1 hsz2
      go_wp2_with fail
      go_region_held3 (fun W => W.cell? ⟨(ad.add (k * 11)).block, (ad.add (k * 11)).off + 3, none⟩ = some (.int .i64 it.o.k) ∧ W.cell? ⟨(ad.add (k * 11)).block, (ad.add (k * 11)).off + 4, none⟩ = some (.slice pa pn pc) ∧ Below wr.heap.size wr W)
        (first | exact ⟨c3, c4, Below.refl _ _⟩ | exact ⟨c3, c4, (Below.refl _ wr).drew⟩ | exact ⟨keep_cell (bchain (Below.refl _ wr).drew (below_new _ _)) c3, keep_cell (bchain (Below.refl _ wr).drew (below_new _ _)) c4, bchain (Below.refl _ wr).drew (below_new _ _)⟩)
        (first | (go_at_call 78; refine (HL _).mono ?_; rintro e w1 ⟨rfl, hw1⟩; have hw1 := hw1.symm; subst hw1))
      all_goals
        obtain ⟨W1, hW1⟩ : ∃ W1, W1 = (wr.alloc (.cells #[.slice pa pn pc, .int .i64 z] 89)).drew := ⟨_, rfl⟩
        obtain ⟨vb, hvb⟩ : ∃ vb, vb = wr.heap.size := ⟨_, rfl⟩
        have bA : Below wr.heap.size wr W1 := by rw [hW1]; exact (below_new wr _).drew
        have ht1 : W1.heap[vb]? = some (.cells #[.slice pa pn pc, .int .i64 z] 89 (0, 0)) := by rw [hW1, hvb]; exact heap_alloc_new wr _
        have v0 : W1.cell? ⟨vb, 0, none⟩ = some (.slice pa pn pc) := by rw [cell_of_row _ vb 0 _ 89 (0, 0) ht1]; rfl
        have v1 : W1.cell? ⟨vb, 1, none⟩ = some (.int .i64 z) := by rw [cell_of_row _ vb 1 _ 89 (0, 0) ht1]; rfl
        have hvr : (Value.slice oa j oc).ownBlock ≠ some vb := fun q => by
          have := (hown0.out.lt vb q).2
          omega
        have hB1 := bchain hbw bA
        have hown1 : Hid (W1.ownsRow w.heap.size 89 2 (.slice oa j oc) acc.length (acc.flatMap lcell)) := by have h := own_on hown0.out bA; exact h
        have HE1 : Hid (lvsE W1 (.slice oa j oc) acc) := by have h := HE0.out.on bA; exact h
        rw [← hW1, ← hvb]
        clear hW1 hvb c0 c1 c2 c3 c4 c5 c6 c7 c8 c9 c10 bA hown0 HE0 HL
        have HAh0 : Hid (Li.ahead Tr.lcomp (it.o.p, z) (acc.map Prod.fst) 0) := by have h := Li.ahead_zero (comp := Tr.lcomp) (it.o.p, z) (acc.map Prod.fst); exact h
        go_wp2
        go_loopw [6] (fun a wq => ∃ t : Nat, a = .int .i64 t ∧ t ≤ j ∧ Hid (Li.ahead Tr.lcomp (it.o.p, z) (acc.map Prod.fst) t) ∧ Below W1.heap.size W1 wq) (fun a _ => j - (intOf a).toNat)
        case atStart => exact ⟨0, rfl, by omega, HAh0, Below.refl _ _⟩
        case round =>
          clear HAh0
          obtain ⟨t, rfl, htj, HAt, hbq⟩ := hrel
          have hbQ := bchain hB1 hbq
          have hownQ := own_on hown1.out hbq
          have e0 := keep_cell hbq v0
          have e1 := keep_cell hbq v1
          have htyq := (hbq.block vb (heap_lt9 ht1)).trans ht1
          by_cases htlt : t < j
          · have htl : t < acc.length := by rw [← HJ.out]; exact htlt
            obtain ⟨oad, rfl, -, hY, hYo⟩ := (HE1.out.on hbq).get htl
            obtain ⟨o0, o1⟩ := hY
            obtain ⟨fk, fl, ft⟩ := HFi.out _ (List.getElem_mem htl)
            obtain ⟨xk9, xl9, xt9⟩ := HXf.out
            have hXq := HXok.out.on hbQ
            have HC0 := fun W (hb : Below wr.heap.size wr W) => refLcompare_any acc[t].2 (.slice pa pn pc) acc[t].1.2 z acc[t].1.1 it.o.p W fk xk9 fl xl9 ft (hYo.on hb) (hXq.on hb)
            obtain ⟨ya, yn, yc, ey⟩ := hYo.slice
            have hj0 : (0 : Int) ≤ (t : Int) := by omega
            have hj1 : (t : Int) < (j : Int) := by omega
            have HAs : Hid (Tr.lcomp acc[t].1 (it.o.p, z) < 0 → Li.ahead Tr.lcomp (it.o.p, z) (acc.map Prod.fst) (t + 1)) := by
              have h : Tr.lcomp acc[t].1 (it.o.p, z) < 0 → Li.ahead Tr.lcomp (it.o.p, z) (acc.map Prod.fst) (t + 1) := fun q => Li.ahead_step HAt.out (by simpa using htl) (by simpa using q)
              exact h
            have HTs : Hid (Tr.lcomp acc[t].1 (it.o.p, z) = 0 → acc.map Prod.fst = Li.vals Tr.lcomp ((xs.take (k + 1)).map fun y => Tr.leafOf y.1)) := by
              have h := HIT.out t htl
              exact h
            have HNs : Hid (0 < Tr.lcomp acc[t].1 (it.o.p, z) → ∀ hk : t < acc.length, 0 < Tr.lcomp acc[t].1 (it.o.p, z)) := by
              have h : 0 < Tr.lcomp acc[t].1 (it.o.p, z) → ∀ hk : t < acc.length, 0 < Tr.lcomp acc[t].1 (it.o.p, z) := fun q _ => q
              exact h
            have HC1 : ∀ W, Below wr.heap.size wr W → Calls Tryz.prog 79 #[.agg #[acc[t].2, .int .i64 acc[t].1.2], .agg #[.slice pa pn pc, .int .i64 z]] W fun e w' => e = .returned (.int .i64 (Tr.lcomp acc[t].1 (it.o.p, z))) ∧ Below W.heap.size W w' := HC0
            have o1' : wr.cell? ⟨(oad.add (t * 2)).block, (oad.add (t * 2)).off + 1, none⟩ = some (.int .i64 acc[t].1.2) := o1
            rw [ey] at HC1 o0
            obtain ⟨yk, hyk⟩ : ∃ yk, yk = acc[t].1.2 := ⟨_, rfl⟩
            rw [← hyk] at HC1 o1'
            clear HC0 hYo ey fk fl ft xk9 xl9 xt9 hXq o1 hyk
            generalize Tr.lcomp acc[t].1 (it.o.p, z) = c at *
            have HC : ∀ W, (Below wr.heap.size wr W) → Calls Tryz.prog 79 #[.agg #[.slice ya yn yc, .int .i64 yk], .agg #[.slice pa pn pc, .int .i64 z]] W fun e w' => e = .returned (.int .i64 c) ∧ Below W.heap.size W w' := HC1
            clear HC1
            have hbx : ∀ w2, Below wr.drew.heap.size wr.drew w2 → Below wr.heap.size wr w2 := fun w2 hb => bchain (Below.refl _ wr).drew hb
            by_cases hneg : c < 0
            · have HAt' : Hid (Li.ahead Tr.lcomp (it.o.p, z) (acc.map Prod.fst) (t + 1)) := by have h := HAs.out hneg; exact h
              go_wp2_with fail
              go_region_held3 (fun W => W.cell? ⟨vb, 0, none⟩ = some (.slice pa pn pc) ∧ W.cell? ⟨vb, 1, none⟩ = some (.int .i64 z) ∧ W.cell? (oad.add (t * 2)) = some (.slice ya yn yc) ∧ W.cell? ⟨(oad.add (t * 2)).block, (oad.add (t * 2)).off + 1, none⟩ = some (.int .i64 yk) ∧ Below wr.heap.size wr W)
                (first | exact ⟨e0, e1, o0, o1', Below.refl _ _⟩ | exact ⟨e0, e1, o0, o1', (Below.refl _ wr).drew⟩ | exact ⟨keep_cell (bchain (Below.refl _ wr).drew hb2) e0, keep_cell (bchain (Below.refl _ wr).drew hb2) e1, keep_cell (bchain (Below.refl _ wr).drew hb2) o0, keep_cell (bchain (Below.refl _ wr).drew hb2) o1', bchain (Below.refl _ wr).drew hb2⟩)
                (first | (go_at_call 79; refine (HC _ (Below.refl _ wr).drew).mono ?_; rintro e w2 ⟨rfl, hb2⟩))
              go_wp2
              go_roundw
              case rel => exact ⟨t + 1, by go_num, by omega, HAt', (by first | exact bchain hbq (hbx _ hb2) | exact bchain hbq (hbx _ hb2).drew)⟩
              case measure => simp [intOf]; omega
            · by_cases hz : c = 0
              · have HE : Hid (acc.map Prod.fst = Li.vals Tr.lcomp ((xs.take (k + 1)).map fun y => Tr.leafOf y.1)) := by have h := HTs.out hz; exact h
                subst hz
                go_wp2_with fail
                go_region_held3 (fun W => W.cell? ⟨vb, 0, none⟩ = some (.slice pa pn pc) ∧ W.cell? ⟨vb, 1, none⟩ = some (.int .i64 z) ∧ W.cell? (oad.add (t * 2)) = some (.slice ya yn yc) ∧ W.cell? ⟨(oad.add (t * 2)).block, (oad.add (t * 2)).off + 1, none⟩ = some (.int .i64 yk) ∧ Below wr.heap.size wr W)
                  (first | exact ⟨e0, e1, o0, o1', Below.refl _ _⟩ | exact ⟨e0, e1, o0, o1', (Below.refl _ wr).drew⟩ | exact ⟨keep_cell (bchain (Below.refl _ wr).drew hb2) e0, keep_cell (bchain (Below.refl _ wr).drew hb2) e1, keep_cell (bchain (Below.refl _ wr).drew hb2) o0, keep_cell (bchain (Below.refl _ wr).drew hb2) o1', bchain (Below.refl _ wr).drew hb2⟩)
                  (first | (go_at_call 79; refine (HC _ (Below.refl _ wr).drew).mono ?_; rintro e w2 ⟨rfl, hb2⟩))
                have hb2' := hbx _ hb2
                have g0 := keep_cell hb2' e0
                have g1 := keep_cell hb2' e1
                have p0 := keep_cell hb2' o0
                have p1 := keep_cell hb2' o1'
                clear e0 e1 o0 o1'
                go_wp2
                go_region_held3 (fun W => W.cell? ⟨vb, 0, none⟩ = some (.slice pa pn pc) ∧ W.cell? ⟨vb, 1, none⟩ = some (.int .i64 z) ∧ W.cell? (oad.add (t * 2)) = some (.slice ya yn yc) ∧ W.cell? ⟨(oad.add (t * 2)).block, (oad.add (t * 2)).off + 1, none⟩ = some (.int .i64 yk) ∧ Below w2.heap.size w2 W)
                  (first | exact ⟨g0, g1, p0, p1, Below.refl _ _⟩ | exact ⟨g0, g1, p0, p1, (Below.refl _ w2).drew⟩ | exact ⟨keep_cell (bchain (Below.refl _ w2).drew hb4) g0, keep_cell (bchain (Below.refl _ w2).drew hb4) g1, keep_cell (bchain (Below.refl _ w2).drew hb4) p0, keep_cell (bchain (Below.refl _ w2).drew hb4) p1, bchain (Below.refl _ w2).drew hb4⟩)
                  (first | (go_at_call 79; refine (HC _ (bchain hb2' (Below.refl _ w2).drew)).mono ?_; rintro e w4 ⟨rfl, hb4⟩))
                have hb4' := bchain hb2' (bchain (Below.refl _ w2).drew hb4)
                go_wp2
                go_roundw
                case rel => exact ⟨k + 1, acc, by omega, by go_num, HE, HLo, own_on hownQ hb4', HNil, bchain hbQ hb4'⟩
                case measure => simp [intOf]; omega
              · have HNg : Hid (∀ hk : t < acc.length, 0 < Tr.lcomp acc[t].1 (it.o.p, z)) := by have h := HNs.out (by omega); exact h
                have hzn : (c == 0) = false := beq_eq_false_iff_ne.2 hz
                clear HAs HTs HNs
                go_wp2_with fail
                go_region_held3 (fun W => W.cell? ⟨vb, 0, none⟩ = some (.slice pa pn pc) ∧ W.cell? ⟨vb, 1, none⟩ = some (.int .i64 z) ∧ W.cell? (oad.add (t * 2)) = some (.slice ya yn yc) ∧ W.cell? ⟨(oad.add (t * 2)).block, (oad.add (t * 2)).off + 1, none⟩ = some (.int .i64 yk) ∧ Below wr.heap.size wr W)
                  (first | exact ⟨e0, e1, o0, o1', Below.refl _ _⟩ | exact ⟨e0, e1, o0, o1', (Below.refl _ wr).drew⟩ | exact ⟨keep_cell (bchain (Below.refl _ wr).drew hb2) e0, keep_cell (bchain (Below.refl _ wr).drew hb2) e1, keep_cell (bchain (Below.refl _ wr).drew hb2) o0, keep_cell (bchain (Below.refl _ wr).drew hb2) o1', bchain (Below.refl _ wr).drew hb2⟩)
                  (first | (go_at_call 79; refine (HC _ (Below.refl _ wr).drew).mono ?_; rintro e w2 ⟨rfl, hb2⟩))
                have hb2' := hbx _ hb2
                have g0 := keep_cell hb2' e0
                have g1 := keep_cell hb2' e1
                have p0 := keep_cell hb2' o0
                have p1 := keep_cell hb2' o1'
                go_wp2
                go_region_held3 (fun W => W.cell? ⟨vb, 0, none⟩ = some (.slice pa pn pc) ∧ W.cell? ⟨vb, 1, none⟩ = some (.int .i64 z) ∧ W.cell? (oad.add (t * 2)) = some (.slice ya yn yc) ∧ W.cell? ⟨(oad.add (t * 2)).block, (oad.add (t * 2)).off + 1, none⟩ = some (.int .i64 yk) ∧ Below w2.heap.size w2 W)
                  (first | exact ⟨g0, g1, p0, p1, Below.refl _ _⟩ | exact ⟨g0, g1, p0, p1, (Below.refl _ w2).drew⟩ | exact ⟨keep_cell (bchain (Below.refl _ w2).drew hb4) g0, keep_cell (bchain (Below.refl _ w2).drew hb4) g1, keep_cell (bchain (Below.refl _ w2).drew hb4) p0, keep_cell (bchain (Below.refl _ w2).drew hb4) p1, bchain (Below.refl _ w2).drew hb4⟩)
                  (first | (go_at_call 79; refine (HC _ (bchain hb2' (Below.refl _ w2).drew)).mono ?_; rintro e w4 ⟨rfl, hb4⟩))
                have hb4' := bchain hb2' (bchain (Below.refl _ w2).drew hb4)
                have q0 := keep_cell hb4' e0
                have q1 := keep_cell hb4' e1
                have hty4 := (hb4'.block vb (heap_lt9 htyq)).trans htyq
                have hbQ4 := bchain hbQ hb4'
                have hown4q := own_on hownQ hb4'
                clear e0 e1 o0 o1' g0 g1 p0 p1 HC hneg hz hzn
                obtain ⟨B9, hB9, hB9s, hown9, hB9v⟩ : ∃ B9, w.heap.size ≤ B9 ∧ B9 ≤ w4.heap.size ∧ w4.ownsRow B9 89 2 (.slice (some oad) j oc) acc.length (acc.flatMap lcell) ∧ (j + 1 = 1 → vb < B9) := by
                  by_cases hj0 : j = 0
                  · have ha : acc = [] := List.eq_nil_of_length_eq_zero (by rw [← HJ.out]; exact hj0)
                    have hz := HNil.out ha
                    refine ⟨w4.heap.size, (hbQ4).size, Nat.le_refl _, ?_, fun _ => heap_lt9 hty4⟩
                    rw [hz, ha]
                    exact World.ownsRow_nil _ _ _ _
                  · exact ⟨w.heap.size, Nat.le_refl _, (hbQ4).size, hown4q, fun q => by omega⟩
                go_wp2_with (first
                  | (at_builtin; refine append_one (f := lcell) (m := 2) lcell_len (Nat.succ_pos 1) (ST := 87) (T := 89) rfl Tryz.underlying87 hI0 hz0 hz1 hz2 rfl (by decide) _ _ rfl B9 (Nat.le_trans hB9s (below_new w4 (.cells #[.slice pa pn pc, .int .i64 z] 89)).size) _ acc rfl (own_on hown9 (below_new w4 (.cells #[.slice pa pn pc, .int .i64 z] 89))) _ (((it.o.p, z), .slice pa pn pc) : LE) rfl (new_cells w4 (lcell (((it.o.p, z), .slice pa pn pc) : LE)) 89) (lcell_one ⟨_, _, _, rfl⟩) (by rw [← HJ.out]; exact hroom) ?_; intro v2 w3 hown2 hg2; have hb3 := (bchain (hbQ4) (below_new w4 (.cells #[.slice pa pn pc, .int .i64 z] 89))).grown hg2 (bchain (hbQ4) (below_new w4 (.cells #[.slice pa pn pc, .int .i64 z] 89))).size (fun g e => (hown4q.lt g e).1); have hty2 := ((below_new w4 (.cells #[.slice pa pn pc, .int .i64 z] 89)).block _ (heap_lt9 hty4)).trans hty4; have f0 := hg2.cell (keep_cell (below_new w4 (.cells #[.slice pa pn pc, .int .i64 z] 89)) q0) (Ne.symm hvr); have f1 := hg2.cell (keep_cell (below_new w4 (.cells #[.slice pa pn pc, .int .i64 z] 89)) q1) (Ne.symm hvr); obtain ⟨g, cap2, rfl⟩ := own_some hown2 (by rw [List.length_append]; simp); rw [HJ1.out] at hown2 ⊢; have hgv := row_far (w := w4.alloc (.cells #[.slice pa pn pc, .int .i64 z] 89)) rfl hty2 hg2 hvr hown2 (by omega) hB9v)
                  | go_in)
                have hst : Hid (Li.Shift acc j (acc ++ [(((it.o.p, z), .slice pa pn pc) : LE)])) := by have h := Li.Shift.start acc (((it.o.p, z), .slice pa pn pc) : LE); rw [← HJ.out] at h; exact h
                have hown3 : w3.ownsRow w.heap.size 89 2 (.slice (some ⟨g, 0, none⟩) (j + 1) cap2) (acc ++ [(((it.o.p, z), .slice pa pn pc) : LE)]).length ((acc ++ [(((it.o.p, z), .slice pa pn pc) : LE)]).flatMap lcell) := by rw [HJ1.out]; exact own_base hown2 hB9
                clear hown2 hg2 hty2 hB9 hB9s hown9 hB9v
                go_loopw [7] (fun kk wz => ∃ (t2 : Nat) (cur : List LE), kk = .int .i64 (t2 : Int) ∧ t ≤ t2 ∧ t2 ≤ j ∧ Hid (Li.Shift acc t2 cur) ∧ wz.ownsRow w.heap.size 89 2 (.slice (some ⟨g, 0, none⟩) (j + 1) cap2) cur.length (cur.flatMap lcell) ∧ wz.cell? ⟨vb, 0, none⟩ = some (.slice pa pn pc) ∧ wz.cell? ⟨vb, 1, none⟩ = some (.int .i64 z) ∧ Below w.heap.size w wz) (fun kk _ => (intOf kk).toNat)
                case atStart => exact ⟨j, acc ++ [(((it.o.p, z), .slice pa pn pc) : LE)], by go_num, htj, Nat.le_refl _, hst, hown3, f0, f1, hb3⟩
                case round =>
                  clear hst hown3 hb3 f0 f1
                  obtain ⟨t2, cur, rfl, ht2, ht2j, hSh, hown3, f0, f1, hb3⟩ := hrel
                  have hcl : cur.length = j + 1 := by have h := hSh.out.1; rw [← HJ.out] at h; exact h
                  obtain ⟨hOr, hcap2, -, hgB, -⟩ := own_cells lcell_len hown3
                  by_cases hgt : t < t2
                  · obtain ⟨t3, rfl⟩ : ∃ t3, t2 = t3 + 1 := ⟨t2 - 1, by omega⟩
                    obtain ⟨h1, h2, e3⟩ := hSh.out.at
                    have hSh' : Hid (Li.Shift acc t3 (cur.set (t3 + 1) acc[t3])) := by have h := hSh.out.step h2; exact h
                    obtain ⟨d0, d1⟩ := hOr.cellsL h1
                    rw [e3] at d0 d1
                    have hth := (hOr.2 (t3 + 1) (show t3 + 1 < cur.length by omega)).2
                    have hown4 := own_setRow lcell_len (Nat.succ_pos 1) hown3 (show t3 + 1 < cur.length by omega) acc[t3]
                    have hb4 := below_setCells hgB (lcell acc[t3]) ((t3 + 1) * 2) _ hb3
                    have k0 := fun (W : World) => World.cell?_setCells_out g (lcell acc[t3]) ((t3 + 1) * 2) W ⟨vb, 0, none⟩ (fun q _ => absurd q.symm hgv)
                    have k1 := fun (W : World) => World.cell?_setCells_out g (lcell acc[t3]) ((t3 + 1) * 2) W ⟨vb, 1, none⟩ (fun q _ => absurd q.symm hgv)
                    obtain ⟨xa, xn, xc, ex⟩ := (HLo.out _ (List.getElem_mem h2)).slice
                    have hi1 : (t : Int) < (t3 : Int) + 1 := by omega
                    have hi2 : (0 : Int) ≤ (t3 : Int) := by omega
                    have hi3 : (t3 : Int) < (j : Int) + 1 := by omega
                    have hi4 : (t3 : Int) + 1 < (j : Int) + 1 := by omega
                    have hi5 : IntKind.i64.wrap (t3 : Int) = (t3 : Int) := U.wrap_i64 (by omega) (by omega)
                    clear hSh hOr hown3 e3
                    generalize cur.set (t3 + 1) acc[t3] = cur' at *
                    generalize acc[t3] = x at *
                    obtain ⟨⟨xp, xk⟩, xv⟩ := x
                    simp only at ex d0 d1
                    subst ex
                    have HK : Hid (∀ W : World, W.cell? ⟨vb, 0, none⟩ = some (.slice pa pn pc) → W.cell? ⟨vb, 1, none⟩ = some (.int .i64 z) → (W.setCells g ((t3 + 1) * 2) (lcell ((xp, xk), .slice xa xn xc))).cell? ⟨vb, 0, none⟩ = some (.slice pa pn pc) ∧ (W.setCells g ((t3 + 1) * 2) (lcell ((xp, xk), .slice xa xn xc))).cell? ⟨vb, 1, none⟩ = some (.int .i64 z)) := by
                      have h : ∀ W : World, W.cell? ⟨vb, 0, none⟩ = some (.slice pa pn pc) → W.cell? ⟨vb, 1, none⟩ = some (.int .i64 z) → (W.setCells g ((t3 + 1) * 2) (lcell ((xp, xk), .slice xa xn xc))).cell? ⟨vb, 0, none⟩ = some (.slice pa pn pc) ∧ (W.setCells g ((t3 + 1) * 2) (lcell ((xp, xk), .slice xa xn xc))).cell? ⟨vb, 1, none⟩ = some (.int .i64 z) := fun W a b => ⟨(k0 W).trans a, (k1 W).trans b⟩
                      exact h
                    clear k0 k1
                    go_wp2_with (first | (refine store_row rfl 89 _ _ rfl g ((t3 + 1) * 2) (lcell ((xp, xk), .slice xa xn xc)) rfl rfl (by show World.there _ _ _ 2; exact hth) (lsize78 rfl) (lcell_one ⟨_, _, _, rfl⟩) ?_) | go_in)
                    go_roundw
                    case rel => exact ⟨t3, cur', by go_num, by omega, by omega, hSh', hown4, (HK.out _ f0 f1).1, (HK.out _ f0 f1).2, hb4⟩
                    case measure => simp [intOf]
                  · obtain rfl : t2 = t := by omega
                    have hE2 : Hid ((cur.set t2 (((it.o.p, z), .slice pa pn pc) : LE)).map Prod.fst = Li.vals Tr.lcomp ((xs.take (k + 1)).map fun y => Tr.leafOf y.1)) := by have h := HIN.out t2 cur HAt.out HNg.out hSh.out; exact h
                    have hLo2 : Hid (∀ x ∈ cur.set t2 (((it.o.p, z), .slice pa pn pc) : LE), LOk w x) := by
                      have h : ∀ x ∈ cur.set t2 (((it.o.p, z), .slice pa pn pc) : LE), LOk w x := fun x hx => by
                        have h1 : x ∈ cur.set t2 (((it.o.p, z), .slice pa pn pc) : LE) := hx
                        rw [hSh.out.done (((it.o.p, z), .slice pa pn pc) : LE)] at h1
                        rcases List.mem_append.1 h1 with h1 | h1
                        · exact HLo.out x (List.mem_of_mem_take h1)
                        · rcases List.mem_cons.1 h1 with h1 | h1
                          · rw [h1]; exact HXok.out
                          · exact HLo.out x (List.mem_of_mem_drop h1)
                      exact h
                    have hth := (hOr.2 t2 (show t2 < cur.length by omega)).2
                    have hown4 := own_setRow lcell_len (Nat.succ_pos 1) hown3 (show t2 < cur.length by omega) (((it.o.p, z), .slice pa pn pc) : LE)
                    have hb4 := below_setCells hgB (lcell (((it.o.p, z), .slice pa pn pc) : LE)) (t2 * 2) _ hb3
                    have hi2 : (0 : Int) ≤ (t2 : Int) := by omega
                    have hi3 : (t2 : Int) < (j : Int) + 1 := by omega
                    have hnil2 : Hid (cur.set t2 (((it.o.p, z), .slice pa pn pc) : LE) = [] → Value.slice (some ⟨g, 0, none⟩) (j + 1) cap2 = .slice none 0 0) := by
                      have h : cur.set t2 (((it.o.p, z), .slice pa pn pc) : LE) = [] → Value.slice (some ⟨g, 0, none⟩) (j + 1) cap2 = .slice none 0 0 := fun q => by
                        have h := congrArg List.length q
                        rw [List.length_set, hcl] at h
                        simp at h
                      exact h
                    clear hSh hOr hown3
                    generalize cur.set t2 (((it.o.p, z), .slice pa pn pc) : LE) = cur' at *
                    go_wp2_with (first | (refine store_row rfl 89 _ _ rfl g (t2 * 2) (lcell (((it.o.p, z), .slice pa pn pc) : LE)) rfl rfl (by show World.there _ _ _ 2; exact hth) (lsize78 rfl) (lcell_one ⟨_, _, _, rfl⟩) ?_) | go_in)
                    go_roundw
                    case rel => exact ⟨k + 1, cur', by omega, by go_num, hE2, hLo2, hown4, hnil2, hb4⟩
                    case measure => simp [intOf]; omega
          · have hge : ¬ (t : Int) < (j : Int) := by omega
            have HNg : Hid (∀ hk : t < acc.length, 0 < Tr.lcomp acc[t].1 (it.o.p, z)) := by
              have h : ∀ hk : t < acc.length, 0 < Tr.lcomp acc[t].1 (it.o.p, z) := fun hk => by rw [← HJ.out] at hk; omega
              exact h
            have bD : Below wr.heap.size wr wr.drew.drew := (Below.refl _ wr).drew.drew
            have q0 := keep_cell bD e0
            have q1 := keep_cell bD e1
            have hty4 := (bD.block vb (heap_lt9 htyq)).trans htyq
            have hbQ4 := bchain hbQ bD
            have hown4q := own_on hownQ bD
            clear e0 e1
            go_wp2
            refine wp_region_held_drew (S := fun W => True) (by kernel_rfl) (trivial) (fun hH0 => ?_)
            refine held_take (i := 0) (o := { dst := some 28, op := Op.move (Operand.tmp 6), type := 3, pos := "ref.go:32", after := #[], guard := none }) (v := .int .i64 ((t : Int) : Int)) (by kernel_rfl) (by kernel_rfl) (by kernel_rfl) (by kernel_rfl) (fun _ _ _ h => h) (by kernel_rfl) (fun _ _ => by kernel_rfl) hH0 ?_
            refine held_take (i := 1) (o := { dst := some 29, op := Op.move (Operand.tmp 3), type := 87, pos := "ref.go:32", after := #[], guard := none }) (v := .slice oa j oc) (by kernel_rfl) (by kernel_rfl) (by kernel_rfl) (by kernel_rfl) (fun _ _ _ h => h) (by kernel_rfl) (fun _ _ => by kernel_rfl) hH0 ?_
            refine held_take (i := 2) (o := { dst := some 30, op := Op.call { callee := Callee.builtin Builtin.len, args := #[Operand.tmp 29], argTypes := #[87] }, type := 3, pos := "ref.go:32", after := #[{ on := 1, ground := Ground.data }], guard := none }) (v := .int .i64 (j : Int)) (by kernel_rfl) (by kernel_rfl) (by kernel_rfl) (by kernel_rfl) (fun _ _ _ h => h) (by kernel_rfl) (fun _ _ => by kernel_rfl) hH0 ?_
            refine held_take (i := 3) (o := { dst := some 31, op := Op.binOp BinOp.lss 3 (Operand.tmp 28) (Operand.tmp 30) 3, type := 4, pos := "ref.go:32", after := #[{ on := 0, ground := Ground.data }, { on := 2, ground := Ground.data }], guard := none }) (v := .bool false) (by kernel_rfl) (by kernel_rfl) (by kernel_rfl) (by kernel_rfl) (fun _ _ _ h => h) (by kernel_rfl) (fun W _ => exec_bin rfl (by kernel_rfl) (by kernel_rfl) (fun _ => by kernel_rfl) (lss_no (by omega)) W) hH0 ?_
            refine held_take (i := 4) (o := { dst := some 32, op := Op.move (Operand.tmp 31), type := 4, pos := "ref.go:32", after := #[{ on := 3, ground := Ground.data }], guard := none }) (v := .bool false) (by kernel_rfl) (by kernel_rfl) (by kernel_rfl) (by kernel_rfl) (fun _ _ _ h => h) (by kernel_rfl) (fun _ _ => by kernel_rfl) hH0 ?_
            refine held_skip (i := 5) (o := { dst := some 33, op := Op.move (Operand.tmp 3), type := 87, pos := "ref.go:32", after := #[{ on := 4, ground := Ground.guard }], guard := some (4, true) }) (by kernel_rfl) (by kernel_rfl) (by kernel_rfl) (by kernel_rfl) (fun _ _ _ h => h) (by kernel_rfl) hH0 ?_
            refine held_skip (i := 6) (o := { dst := some 34, op := Op.move (Operand.tmp 6), type := 3, pos := "ref.go:32", after := #[{ on := 4, ground := Ground.guard }], guard := some (4, true) }) (by kernel_rfl) (by kernel_rfl) (by kernel_rfl) (by kernel_rfl) (fun _ _ _ h => h) (by kernel_rfl) hH0 ?_
            refine held_skip (i := 7) (o := { dst := some 35, op := Op.indexAddr 87 (Operand.tmp 33) (Operand.tmp 34), type := 0, pos := "ref.go:32", after := #[{ on := 5, ground := Ground.data }, { on := 6, ground := Ground.data }, { on := 4, ground := Ground.guard }], guard := some (4, true) }) (by kernel_rfl) (by kernel_rfl) (by kernel_rfl) (by kernel_rfl) (fun _ _ _ h => h) (by kernel_rfl) hH0 ?_
            refine held_skip (i := 8) (o := { dst := some 36, op := Op.load 89 (Operand.tmp 35), type := 89, pos := "ref.go:32", after := #[{ on := 7, ground := Ground.data }, { on := 4, ground := Ground.guard }], guard := some (4, true) }) (by kernel_rfl) (by kernel_rfl) (by kernel_rfl) (by kernel_rfl) (fun _ _ _ h => h) (by kernel_rfl) hH0 ?_
            refine held_skip (i := 9) (o := { dst := some 37, op := Op.load 89 (Operand.tmp 5), type := 89, pos := "ref.go:32", after := #[{ on := 4, ground := Ground.guard }], guard := some (4, true) }) (by kernel_rfl) (by kernel_rfl) (by kernel_rfl) (by kernel_rfl) (fun _ _ _ h => h) (by kernel_rfl) hH0 ?_
            refine held_skip (i := 10) (o := { dst := some 38, op := Op.call { callee := Callee.value (Operand.func 79), args := #[Operand.tmp 36, Operand.tmp 37], argTypes := #[89, 89] }, type := 3, pos := "ref.go:32", after := #[{ on := 8, ground := Ground.data }, { on := 9, ground := Ground.data }, { on := 4, ground := Ground.chain }, { on := 4, ground := Ground.guard }], guard := some (4, true) }) (by kernel_rfl) (by kernel_rfl) (by kernel_rfl) (by kernel_rfl) (fun _ _ _ h => h) (by kernel_rfl) hH0 ?_
            refine held_skip (i := 11) (o := { dst := some 39, op := Op.binOp BinOp.lss 3 (Operand.tmp 38) (Operand.const (Value.int IntKind.i64 0)) 3, type := 4, pos := "ref.go:32", after := #[{ on := 10, ground := Ground.data }, { on := 4, ground := Ground.guard }], guard := some (4, true) }) (by kernel_rfl) (by kernel_rfl) (by kernel_rfl) (by kernel_rfl) (fun _ _ _ h => h) (by kernel_rfl) hH0 ?_
            refine held_take (i := 12) (o := { dst := some 40, op := Op.pick (Operand.tmp 32) (Operand.tmp 39) (Operand.const (Value.bool false)), type := 4, pos := "ref.go:32", after := #[{ on := 4, ground := Ground.data }, { on := 11, ground := Ground.data }], guard := none }) (v := .bool false) (by kernel_rfl) (by kernel_rfl) (by kernel_rfl) (by kernel_rfl) (fun _ _ _ h => h) (by kernel_rfl) (fun _ _ => by kernel_rfl) hH0 ?_
            refine wpAnyH_done (by kernel_rfl) ?_ _
            simp only [Act.put, List.setIfInBounds_toArray, List.set_cons_zero, List.set_cons_succ]
            go_wp2
            refine wp_region_held_drew (S := fun W => True) (by kernel_rfl) (trivial) (fun hH0 => ?_)
            refine held_take (i := 0) (o := { dst := some 43, op := Op.move (Operand.tmp 6), type := 3, pos := "ref.go:35", after := #[], guard := none }) (v := .int .i64 ((t : Int) : Int)) (by kernel_rfl) (by kernel_rfl) (by kernel_rfl) (by kernel_rfl) (fun _ _ _ h => h) (by kernel_rfl) (fun _ _ => by kernel_rfl) hH0 ?_
            refine held_take (i := 1) (o := { dst := some 44, op := Op.move (Operand.tmp 3), type := 87, pos := "ref.go:35", after := #[], guard := none }) (v := .slice oa j oc) (by kernel_rfl) (by kernel_rfl) (by kernel_rfl) (by kernel_rfl) (fun _ _ _ h => h) (by kernel_rfl) (fun _ _ => by kernel_rfl) hH0 ?_
            refine held_take (i := 2) (o := { dst := some 45, op := Op.call { callee := Callee.builtin Builtin.len, args := #[Operand.tmp 44], argTypes := #[87] }, type := 3, pos := "ref.go:35", after := #[{ on := 1, ground := Ground.data }], guard := none }) (v := .int .i64 (j : Int)) (by kernel_rfl) (by kernel_rfl) (by kernel_rfl) (by kernel_rfl) (fun _ _ _ h => h) (by kernel_rfl) (fun _ _ => by kernel_rfl) hH0 ?_
            refine held_take (i := 3) (o := { dst := some 46, op := Op.binOp BinOp.lss 3 (Operand.tmp 43) (Operand.tmp 45) 3, type := 4, pos := "ref.go:35", after := #[{ on := 0, ground := Ground.data }, { on := 2, ground := Ground.data }], guard := none }) (v := .bool false) (by kernel_rfl) (by kernel_rfl) (by kernel_rfl) (by kernel_rfl) (fun _ _ _ h => h) (by kernel_rfl) (fun W _ => exec_bin rfl (by kernel_rfl) (by kernel_rfl) (fun _ => by kernel_rfl) (lss_no (by omega)) W) hH0 ?_
            refine held_take (i := 4) (o := { dst := some 47, op := Op.move (Operand.tmp 46), type := 4, pos := "ref.go:35", after := #[{ on := 3, ground := Ground.data }], guard := none }) (v := .bool false) (by kernel_rfl) (by kernel_rfl) (by kernel_rfl) (by kernel_rfl) (fun _ _ _ h => h) (by kernel_rfl) (fun _ _ => by kernel_rfl) hH0 ?_
            refine held_skip (i := 5) (o := { dst := some 48, op := Op.move (Operand.tmp 3), type := 87, pos := "ref.go:35", after := #[{ on := 4, ground := Ground.guard }], guard := some (4, true) }) (by kernel_rfl) (by kernel_rfl) (by kernel_rfl) (by kernel_rfl) (fun _ _ _ h => h) (by kernel_rfl) hH0 ?_
            refine held_skip (i := 6) (o := { dst := some 49, op := Op.move (Operand.tmp 6), type := 3, pos := "ref.go:35", after := #[{ on := 4, ground := Ground.guard }], guard := some (4, true) }) (by kernel_rfl) (by kernel_rfl) (by kernel_rfl) (by kernel_rfl) (fun _ _ _ h => h) (by kernel_rfl) hH0 ?_
            refine held_skip (i := 7) (o := { dst := some 50, op := Op.indexAddr 87 (Operand.tmp 48) (Operand.tmp 49), type := 0, pos := "ref.go:35", after := #[{ on := 5, ground := Ground.data }, { on := 6, ground := Ground.data }, { on := 4, ground := Ground.guard }], guard := some (4, true) }) (by kernel_rfl) (by kernel_rfl) (by kernel_rfl) (by kernel_rfl) (fun _ _ _ h => h) (by kernel_rfl) hH0 ?_
            refine held_skip (i := 8) (o := { dst := some 51, op := Op.load 89 (Operand.tmp 50), type := 89, pos := "ref.go:35", after := #[{ on := 7, ground := Ground.data }, { on := 4, ground := Ground.guard }], guard := some (4, true) }) (by kernel_rfl) (by kernel_rfl) (by kernel_rfl) (by kernel_rfl) (fun _ _ _ h => h) (by kernel_rfl) hH0 ?_
            refine held_skip (i := 9) (o := { dst := some 52, op := Op.load 89 (Operand.tmp 5), type := 89, pos := "ref.go:35", after := #[{ on := 4, ground := Ground.guard }], guard := some (4, true) }) (by kernel_rfl) (by kernel_rfl) (by kernel_rfl) (by kernel_rfl) (fun _ _ _ h => h) (by kernel_rfl) hH0 ?_
            refine held_skip (i := 10) (o := { dst := some 53, op := Op.call { callee := Callee.value (Operand.func 79), args := #[Operand.tmp 51, Operand.tmp 52], argTypes := #[89, 89] }, type := 3, pos := "ref.go:35", after := #[{ on := 8, ground := Ground.data }, { on := 9, ground := Ground.data }, { on := 4, ground := Ground.chain }, { on := 4, ground := Ground.guard }], guard := some (4, true) }) (by kernel_rfl) (by kernel_rfl) (by kernel_rfl) (by kernel_rfl) (fun _ _ _ h => h) (by kernel_rfl) hH0 ?_
            refine held_skip (i := 11) (o := { dst := some 54, op := Op.binOp BinOp.eql 3 (Operand.tmp 53) (Operand.const (Value.int IntKind.i64 0)) 3, type := 4, pos := "ref.go:35", after := #[{ on := 10, ground := Ground.data }, { on := 4, ground := Ground.guard }], guard := some (4, true) }) (by kernel_rfl) (by kernel_rfl) (by kernel_rfl) (by kernel_rfl) (fun _ _ _ h => h) (by kernel_rfl) hH0 ?_
            refine held_take (i := 12) (o := { dst := some 55, op := Op.pick (Operand.tmp 47) (Operand.tmp 54) (Operand.const (Value.bool false)), type := 4, pos := "ref.go:35", after := #[{ on := 4, ground := Ground.data }, { on := 11, ground := Ground.data }], guard := none }) (v := .bool false) (by kernel_rfl) (by kernel_rfl) (by kernel_rfl) (by kernel_rfl) (fun _ _ _ h => h) (by kernel_rfl) (fun _ _ => by kernel_rfl) hH0 ?_
            refine wpAnyH_done (by kernel_rfl) ?_ _
            simp only [Act.put, List.setIfInBounds_toArray, List.set_cons_zero, List.set_cons_succ]
            obtain ⟨B9, hB9, hB9s, hown9, hB9v⟩ : ∃ B9, w.heap.size ≤ B9 ∧ B9 ≤ wr.drew.drew.heap.size ∧ wr.drew.drew.ownsRow B9 89 2 (.slice oa j oc) acc.length (acc.flatMap lcell) ∧ (j + 1 = 1 → vb < B9) := by
              by_cases hj0 : j = 0
              · have ha : acc = [] := List.eq_nil_of_length_eq_zero (by rw [← HJ.out]; exact hj0)
                have hz := HNil.out ha
                refine ⟨wr.drew.drew.heap.size, (hbQ4).size, Nat.le_refl _, ?_, fun _ => heap_lt9 hty4⟩
                rw [hz, ha]
                exact World.ownsRow_nil _ _ _ _
              · exact ⟨w.heap.size, Nat.le_refl _, (hbQ4).size, hown4q, fun q => by omega⟩
            go_wp2_with (first
              | (at_builtin; refine append_one (f := lcell) (m := 2) lcell_len (Nat.succ_pos 1) (ST := 87) (T := 89) rfl Tryz.underlying87 hI0 hz0 hz1 hz2 rfl (by decide) _ _ rfl B9 (Nat.le_trans hB9s (below_new wr.drew.drew (.cells #[.slice pa pn pc, .int .i64 z] 89)).size) _ acc rfl (own_on hown9 (below_new wr.drew.drew (.cells #[.slice pa pn pc, .int .i64 z] 89))) _ (((it.o.p, z), .slice pa pn pc) : LE) rfl (new_cells wr.drew.drew (lcell (((it.o.p, z), .slice pa pn pc) : LE)) 89) (lcell_one ⟨_, _, _, rfl⟩) (by rw [← HJ.out]; exact hroom) ?_; intro v2 w3 hown2 hg2; have hb3 := (bchain (hbQ4) (below_new wr.drew.drew (.cells #[.slice pa pn pc, .int .i64 z] 89))).grown hg2 (bchain (hbQ4) (below_new wr.drew.drew (.cells #[.slice pa pn pc, .int .i64 z] 89))).size (fun g e => (hown4q.lt g e).1); have hty2 := ((below_new wr.drew.drew (.cells #[.slice pa pn pc, .int .i64 z] 89)).block _ (heap_lt9 hty4)).trans hty4; have f0 := hg2.cell (keep_cell (below_new wr.drew.drew (.cells #[.slice pa pn pc, .int .i64 z] 89)) q0) (Ne.symm hvr); have f1 := hg2.cell (keep_cell (below_new wr.drew.drew (.cells #[.slice pa pn pc, .int .i64 z] 89)) q1) (Ne.symm hvr); obtain ⟨g, cap2, rfl⟩ := own_some hown2 (by rw [List.length_append]; simp); rw [HJ1.out] at hown2 ⊢; have hgv := row_far (w := wr.drew.drew.alloc (.cells #[.slice pa pn pc, .int .i64 z] 89)) rfl hty2 hg2 hvr hown2 (by omega) hB9v)
              | go_in)
            have hst : Hid (Li.Shift acc j (acc ++ [(((it.o.p, z), .slice pa pn pc) : LE)])) := by have h := Li.Shift.start acc (((it.o.p, z), .slice pa pn pc) : LE); rw [← HJ.out] at h; exact h
            have hown3 : w3.ownsRow w.heap.size 89 2 (.slice (some ⟨g, 0, none⟩) (j + 1) cap2) (acc ++ [(((it.o.p, z), .slice pa pn pc) : LE)]).length ((acc ++ [(((it.o.p, z), .slice pa pn pc) : LE)]).flatMap lcell) := by rw [HJ1.out]; exact own_base hown2 hB9
            clear hown2 hg2 hty2 hB9 hB9s hown9 hB9v
            go_loopw [7] (fun kk wz => ∃ (t2 : Nat) (cur : List LE), kk = .int .i64 (t2 : Int) ∧ t ≤ t2 ∧ t2 ≤ j ∧ Hid (Li.Shift acc t2 cur) ∧ wz.ownsRow w.heap.size 89 2 (.slice (some ⟨g, 0, none⟩) (j + 1) cap2) cur.length (cur.flatMap lcell) ∧ wz.cell? ⟨vb, 0, none⟩ = some (.slice pa pn pc) ∧ wz.cell? ⟨vb, 1, none⟩ = some (.int .i64 z) ∧ Below w.heap.size w wz) (fun kk _ => (intOf kk).toNat)
            case atStart => exact ⟨j, acc ++ [(((it.o.p, z), .slice pa pn pc) : LE)], by go_num, htj, Nat.le_refl _, hst, hown3, f0, f1, hb3⟩
            case round =>
              clear hst hown3 hb3 f0 f1
              obtain ⟨t2, cur, rfl, ht2, ht2j, hSh, hown3, f0, f1, hb3⟩ := hrel
              have hcl : cur.length = j + 1 := by have h := hSh.out.1; rw [← HJ.out] at h; exact h
              obtain ⟨hOr, hcap2, -, hgB, -⟩ := own_cells lcell_len hown3
              by_cases hgt : t < t2
              · exfalso; omega
              · obtain rfl : t2 = t := by omega
                have hE2 : Hid ((cur.set t2 (((it.o.p, z), .slice pa pn pc) : LE)).map Prod.fst = Li.vals Tr.lcomp ((xs.take (k + 1)).map fun y => Tr.leafOf y.1)) := by have h := HIN.out t2 cur HAt.out HNg.out hSh.out; exact h
                have hLo2 : Hid (∀ x ∈ cur.set t2 (((it.o.p, z), .slice pa pn pc) : LE), LOk w x) := by
                  have h : ∀ x ∈ cur.set t2 (((it.o.p, z), .slice pa pn pc) : LE), LOk w x := fun x hx => by
                    have h1 : x ∈ cur.set t2 (((it.o.p, z), .slice pa pn pc) : LE) := hx
                    rw [hSh.out.done (((it.o.p, z), .slice pa pn pc) : LE)] at h1
                    rcases List.mem_append.1 h1 with h1 | h1
                    · exact HLo.out x (List.mem_of_mem_take h1)
                    · rcases List.mem_cons.1 h1 with h1 | h1
                      · rw [h1]; exact HXok.out
                      · exact HLo.out x (List.mem_of_mem_drop h1)
                  exact h
                have hth := (hOr.2 t2 (show t2 < cur.length by omega)).2
                have hown4 := own_setRow lcell_len (Nat.succ_pos 1) hown3 (show t2 < cur.length by omega) (((it.o.p, z), .slice pa pn pc) : LE)
                have hb4 := below_setCells hgB (lcell (((it.o.p, z), .slice pa pn pc) : LE)) (t2 * 2) _ hb3
                have hi2 : (0 : Int) ≤ (t2 : Int) := by omega
                have hi3 : (t2 : Int) < (j : Int) + 1 := by omega
                have hnil2 : Hid (cur.set t2 (((it.o.p, z), .slice pa pn pc) : LE) = [] → Value.slice (some ⟨g, 0, none⟩) (j + 1) cap2 = .slice none 0 0) := by
                  have h : cur.set t2 (((it.o.p, z), .slice pa pn pc) : LE) = [] → Value.slice (some ⟨g, 0, none⟩) (j + 1) cap2 = .slice none 0 0 := fun q => by
                    have h := congrArg List.length q
                    rw [List.length_set, hcl] at h
                    simp at h
                  exact h
                clear hSh hOr hown3
                generalize cur.set t2 (((it.o.p, z), .slice pa pn pc) : LE) = cur' at *
                go_wp2_with (first | (refine store_row rfl 89 _ _ rfl g (t2 * 2) (lcell (((it.o.p, z), .slice pa pn pc) : LE)) rfl rfl (by show World.there _ _ _ 2; exact hth) (lsize78 rfl) (lcell_one ⟨_, _, _, rfl⟩) ?_) | go_in)
                go_roundw
                case rel => exact ⟨k + 1, cur', by omega, by go_num, hE2, hLo2, hown4, hnil2, hb4⟩
                case measure => simp [intOf]; omega
    · have HE : Hid (acc.map Prod.fst = Tr.leaves (xs.map (·.1))) := by
        have h := HA.out
        rw [List.take_of_length_le (by rw [← HN.out]; omega)] at h
        have e : Tr.leaves (xs.map (·.1)) = Li.vals Tr.lcomp (xs.map fun y => Tr.leafOf y.1) := by
          unfold Tr.leaves
          rw [List.map_map]
          rfl
        rw [e]
        exact h
      go_wp2
      go_ret
      exact ⟨_, acc, rfl, HE.out, HE0.out, hbw⟩
end Go.Proofs.YthlhopdlkkeohaaGreatDoor.O

