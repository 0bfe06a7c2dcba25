/- The walks of live's At and Under · The walks of slices.Clone over items, of live's At and Under · The walks of the document's At, Under and Refs, of live's Refs, of the statement's has and the document's SameRefs. -/
import Derived.Test.YtmnehekcealjhaaGreatOpWrapAll
import Derived.Test.YtmnehekcealjhaaGreatIFilU
import Derived.Test.YtmnehekcealjhaaGreatAllP
import Derived.Test.YtmnehekcealjhaaGreatComps
import Derived.Test.YtmnehekcealjhaaGreatTxnCat
/- The walks of live's At and Under. -/
namespace Go.Proofs.YtmnehekcealjhaaGreat.O
open Go.RowKit

/-- An item in a variable, a leaf and a path in boxes. -/
structure AtS (w W0 : World) (x : IE) (lb : Nat) (leaf : Int) (pb : Nat) (pq : Value) (W : World) : Prop where
  px : IcAt W ⟨w.heap.size, 0, none⟩ x
  lf : W.cell? ⟨lb, 0, none⟩ = some (.int .i64 leaf)
  pb : W.cell? ⟨pb, 0, none⟩ = some pq
  below : Below W0.heap.size W0 W
theorem AtS.on {w W0 : World} {x : IE} {lb : Nat} {leaf : Int} {pb : Nat} {pq : Value} {W W' : World} (h : AtS w W0 x lb leaf pb pq W) (hb : Below W.heap.size W W') : AtS w W0 x lb leaf pb pq W' := ⟨h.px.on hb, keep_cell hb h.lf, keep_cell hb h.pb, bchain h.below hb⟩
def isAt (p : List (List UInt8)) (leaf : Int) (x : Lv.Item) : Bool := decide (Os.leaf x.o.k = leaf ∧ x.o.p = p)

set_option maxRecDepth 20000 in
set_option maxHeartbeats 1000000 in
theorem notUnder_any (x : IE) (pb : Nat) (p : List (List UInt8)) (pq : Value) (w : World) (hsh : Os.short x.1.o = true) (hx : IOk w x) (hq : w.cell? ⟨pb, 0, none⟩ = some pq) (hp : U.strsAt w pq p) (hn : p.length ≤ 2000000) :
    Calls Tryz.prog 46 #[.agg (icell x).toArray, .pointer (some ⟨pb, 0, none⟩)] w fun e w' => e = .returned (.bool (!Pt.under x.1.o.p p)) ∧ Below w.heap.size w w' := by
  obtain ⟨it, pv, sv⟩ := x
  obtain ⟨pa, pn, pc, rfl⟩ := strs_slice hx.1
  obtain ⟨sa, sn, sc, rfl⟩ := refs_slice hx.2
  obtain ⟨qa, qn, qc, rfl⟩ := strs_slice hp
  have B0 := below_new w (.cells (icell (it, .slice pa pn pc, .slice sa sn sc)).toArray 68)
  have hsh : Os.short it.o = true := hsh
  have hlen : it.o.p.length ≤ 2000000 := by have := (short_parts hsh).1.1; omega
  have HU := U.under_any (.slice pa pn pc) (.slice qa qn qc) it.o.p p _ hlen hn (hx.on B0).1 (U.strsAt_below hp B0 (Nat.le_refl _))
  have hq1 : (w.alloc (.cells #[.int .i64 it.x.1.1, .int .i64 it.x.1.2, .int .i64 it.x.2, .int .i64 it.o.k, .slice pa pn pc, .int .i64 it.o.vk, .int .i64 it.o.vn, .string ⟨it.o.vs.toArray⟩, .int .i64 it.o.n, .slice sa sn sc, .int .i64 it.t] 68)).cell? ⟨pb, 0, none⟩ = some (.slice qa qn qc) := keep_cell B0 hq
  show Calls Tryz.prog 46 #[.agg #[.int .i64 it.x.1.1, .int .i64 it.x.1.2, .int .i64 it.x.2, .int .i64 it.o.k, .slice pa pn pc, .int .i64 it.o.vk, .int .i64 it.o.vn, .string ⟨it.o.vs.toArray⟩, .int .i64 it.o.n, .slice sa sn sc, .int .i64 it.t], .pointer (some ⟨pb, 0, none⟩)] w fun e w' => e = .returned (.bool (!Pt.under it.o.p p)) ∧ Below w.heap.size w w'
  clear hx hp hsh hlen hq
  go_enter Tryz.func46, Tryz.ntmps46
  go_wp2_with (go_at_call 39; refine HU.mono ?_; rintro e w1 ⟨rfl, hb1⟩)
  go_ret
  exact ⟨rfl, bchain B0 hb1⟩
end Go.Proofs.YtmnehekcealjhaaGreat.O
/- The walks of slices.Clone over items, of live's At and Under. -/
namespace Go.Proofs.YtmnehekcealjhaaGreat.O
open Go.RowKit

theorem its_one {w : World} {xs : List IE} (h : ∀ x ∈ xs, IOk w x) : ∀ u ∈ xs.flatMap icell, u.oneCell' = true := by
  intro u hu
  obtain ⟨x, hx, hu⟩ := List.mem_flatMap.1 hu
  exact icell_one (h x hx) u hu
theorem itsE_none {w : World} {n cap : Nat} {xs : List IE} (h : itsE w (.slice none n cap) xs) : xs = [] ∧ n = 0 ∧ cap = 0 := by
  obtain ⟨⟨ao, c, e, hm, h0, _⟩, _⟩ := h
  cases e
  have := h0 rfl
  have hz : xs.length = 0 := by omega
  exact ⟨List.eq_nil_of_length_eq_zero hz, hz, by omega⟩
/-- Items of any slice are appended. -/
theorem append_its {ops : Array Oper} {rest : List Oper} {o : Oper} {a : Act} {w : World} {Q : Exit → Act → World → Prop} (hgd : o.guard = none) (s x : Operand)
    (ho : o.op = .call { callee := .builtin .append, args := #[s, x], argTypes := #[28, 28] }) (B : Nat) (hB : B ≤ w.heap.size) (r : Value) (acc : List IE) (hs : a.eval s = r) (hown : w.ownsRow B 68 11 r acc.length (acc.flatMap icell))
    (v : Value) (ys : List IE) (hx : a.eval x = v) (hv : itsE w v ys) (hn : acc.length + ys.length ≤ 1000000)
    (h : ∀ r' w', w'.ownsRow B 68 11 r' (acc ++ ys).length ((acc ++ ys).flatMap icell) → w.grownBy w' r.ownBlock → wpList Tryz.prog ops Q rest (a.put o.dst r') w') : wpList Tryz.prog ops Q (o :: rest) a w := by
  obtain ⟨i0, hi, hz, hz1, hz2⟩ := iinfo56
  obtain ⟨⟨ao, cap, rfl, hm, h0, hc⟩, hok⟩ := id hv
  cases ao with
  | none =>
    obtain ⟨rfl, _, rfl⟩ := itsE_none hv
    refine wpList_append_own_none hgd s x 28 ho B 68 i0 11 Tryz.underlying28 hi r _ _ hs hown hx ?_
    refine h r w ?_ ⟨rfl, rfl, rfl, Nat.le_refl _, fun _ _ _ => rfl⟩
    rw [List.append_nil]
    exact hown
  | some ad =>
    refine wpList_append_own w hgd s x 28 ho B 68 i0 _ 11 128 Tryz.underlying28 hi hz hz1 hz2 rfl (by decide) r _ _ hs hown ad ys.length cap (ys.flatMap icell) hx (flat_length icell_len ys) (fun j u hu => ?_) (its_one hok) (by unfold maxLen; omega) (by omega) hB ?_
    · obtain ⟨ad', e, h3⟩ := hc j u hu
      cases e
      exact h3
    · intro v' w1 hown' hg _
      refine h v' w1 ?_ hg
      rw [List.flatMap_append, List.length_append]
      exact hown'
theorem own_emptyI (w : World) : (w.alloc (.cells #[] 68)).ownsRow w.heap.size 68 11 (.slice (some ⟨w.heap.size, 0, none⟩) 0 0) ([] : List IE).length (([] : List IE).flatMap icell) :=
  ⟨rfl, Or.inr ⟨w.heap.size, 0, #[], rfl, Nat.le_refl _, heap_alloc_new w _, Nat.le_refl _, by unfold maxLen; omega, rfl, rfl⟩⟩
set_option maxRecDepth 20000 in
theorem iclone_any (v : Value) (xs : List IE) (w : World) (hv : itsE w v xs) (hn : xs.length ≤ 1000000) :
    Calls Tryz.prog 45 #[v] w fun e w' => ∃ r, e = .returned r ∧ w'.ownsRow w.heap.size 68 11 r xs.length (xs.flatMap icell) ∧ Below w.heap.size w w' := by
  obtain ⟨ao, c, rfl⟩ := hv.slice
  cases ao with
  | none =>
    obtain ⟨rfl, _, rfl⟩ := itsE_none hv
    have heq : ∀ w, (binOp .eql 28 (.slice none 0 0) (.slice none 0 0)).run Tryz.prog w = .ok (.bool true) w := fun w => by kernel_rfl
    go_enter Tryz.func45, Tryz.ntmps45
    go_wp2
    go_ret
    exact ⟨_, rfl, World.ownsRow_nil _ _ _ _, Below.refl _ _⟩
  | some ad =>
    have hB : w.heap.size ≤ (w.alloc (.cells #[] 68)).heap.size := by simp
    have own := own_emptyI w
    have f7 : ([] : List IE).length + xs.length ≤ 1000000 := by simp; omega
    have HL : Hid (itsE (w.alloc (.cells #[] 68)) (.slice (some ad) xs.length c) xs) := hv.on (below_new w _)
    clear hv
    obtain ⟨n, hn0⟩ : ∃ n, n = xs.length := ⟨_, rfl⟩
    have HN : Hid (n = xs.length) := hn0
    rw [← hn0] at HL ⊢
    clear hn0
    have heq : ∀ w, (binOp .eql 28 (.slice (some ad) n c) (.slice none 0 0)).run Tryz.prog w = .ok (.bool false) w := fun w => by kernel_rfl
    go_enter Tryz.func45, Tryz.ntmps45
    go_wp2_with (at_builtin; refine append_its rfl _ _ rfl w.heap.size hB _ [] rfl own _ xs rfl HL.out f7 ?_; intro r3 w4 own3 hg3)
    go_ret
    refine ⟨_, rfl, ?_, (below_new w (.cells #[] 68)).grown hg3 hB (fun g e => (own.lt g e).1)⟩
    rw [HN.out]
    exact own3
theorem itsE_filter {w : World} {g cap : Nat} {xs : List IE} (h : OwnR w g icell 11 xs) (hc : xs.length ≤ cap) (hok : ∀ x ∈ xs, IOk w x) : itsE w (.slice (some ⟨g, 0, none⟩) xs.length cap) xs := ⟨h.rows icell_len hc, hok⟩
theorem itsE_nil (w : World) : itsE w (.slice none 0 0) [] := ⟨⟨none, 0, rfl, Nat.le_refl _, fun _ => rfl, fun j u hu => by simp at hu⟩, by simp⟩

set_option maxRecDepth 20000 in
set_option maxHeartbeats 1000000 in
theorem underL_any (v vp : Value) (xs : List IE) (p : List (List UInt8)) (w : World) (hv : itsE w v xs) (hp : U.strsAt w vp p) (hn : xs.length ≤ 1000000) (hpn : p.length ≤ 2000000) (hs : ShortI xs) :
    Calls Tryz.prog 18 #[v, vp] w fun e w' => ∃ r, e = .returned r ∧ itsE w' r (xs.filter fun x => Pt.under x.1.o.p p) ∧ Below w.heap.size w w' := by
  obtain ⟨qa, qn, qc, rfl⟩ := strs_slice hp
  obtain ⟨W0, hW0⟩ : ∃ W0, W0 = w.alloc (.cells #[.slice qa qn qc] 24) := ⟨_, rfl⟩
  have hB0 : Below w.heap.size w W0 := by rw [hW0]; exact below_new _ _
  have hbox : W0.cell? ⟨w.heap.size, 0, none⟩ = some (.slice qa qn qc) := by rw [hW0]; simp
  have HC := iclone_any v xs W0 (hv.on hB0) hn
  have hok := (hv.on hB0).2
  have HA : iuAsks W0.heap.size W0 (.pointer (some ⟨w.heap.size, 0, none⟩)) xs (fun x => !Pt.under x.1.o.p p) := fun W x hx hW =>
    notUnder_any x w.heap.size p _ W (hs x hx) ((hok x hx).on hW) (keep_cell hW hbox) (U.strsAt_below hp (bchain hB0 hW) (Nat.le_refl _)) hpn
  have HD : ∀ r w1, w1.ownsRow W0.heap.size 68 11 r xs.length (xs.flatMap icell) → Below W0.heap.size W0 w1 → Calls Tryz.prog 44 #[r, .func (.func 46) #[] #[.pointer (some ⟨w.heap.size, 0, none⟩)]] w1 fun e w' => ∃ r, e = .returned r ∧ itsE w' r (xs.filter fun x => Pt.under x.1.o.p p) ∧ Below W0.heap.size W0 w' := fun r w1 own hb1 => by
    rcases id own.2 with ⟨rfl, h0⟩ | ⟨g, cap, cur, rfl, hbg, hg, r1, r2, r3, r4⟩
    · obtain rfl : xs = [] := List.eq_nil_of_length_eq_zero h0
      have HI := iuindex_any (.slice none 0 0) [] W0 w1 W0.heap.size _ _ hb1 hb1.size (itsE_nil w1).1 (by simp) HA
      have e9 : idxF (fun x : IE => !Pt.under x.1.o.p p) [] = -1 := rfl
      rw [e9] at HI
      clear own HA HC hok
      go_enter Tryz.func44, Tryz.ntmps44
      go_wp2_with (go_at_call 65; refine HI.mono ?_; rintro e w2 ⟨rfl, hb2⟩)
      go_ret
      exact ⟨_, rfl, itsE_nil _, bchain hb1 hb2⟩
    · obtain ⟨hO, h1, h2, h3, _⟩ := OwnR.of (f := icell) (m := 11) icell_len own
      refine (iudelete_any g cap xs W0.heap.size W0 w1 _ (fun x => Pt.under x.1.o.p p) hb1 hO (fun x hx => icell_one (hok x hx)) hn h1 h2 h3 HA).mono ?_
      rintro e w2 ⟨rfl, hO2, hb2⟩
      exact ⟨_, rfl, itsE_filter hO2 (Nat.le_trans (List.length_filter_le _ _) h1) fun x hx => (hok x (List.mem_filter.1 hx).1).on hb2, hb2⟩
  clear HA hbox hv hok hp
  go_enter Tryz.func18, Tryz.ntmps18
  go_wp2_with (first | (go_at_call 45; rw [← hW0]; refine HC.mono ?_; rintro e w1 ⟨r, rfl, own, hb1⟩) | (go_at_call 44; refine (HD r w1 own hb1).mono ?_; rintro e w2 ⟨r2, rfl, hr2, hb2⟩))
  go_ret
  exact ⟨_, rfl, hr2, bchain hB0 hb2⟩
end Go.Proofs.YtmnehekcealjhaaGreat.O
/- The walks of the document's At, Under and Refs, of live's Refs, of the statement's has and the document's SameRefs. -/
namespace Go.Proofs.YtmnehekcealjhaaGreat.O
open Go.RowKit

theorem refLeaf_any (k : Int) (w : World) : Calls Tryz.prog 37 #[.int .i64 k] w fun e w' => e = .returned (.int .i64 (Os.leaf k)) ∧ w' = w := by
  rcases kinds k with rfl | rfl | rfl | rfl | rfl | ⟨e1, e2, e3, e4, e5, h1, h2, h3, h4, h5⟩
  rotate_right
  · rw [leaf_else h1 h2 h3 h4]
    clear h1 h2 h3 h4 h5
    go_enter Tryz.func37, Tryz.ntmps37
    go_wp2
    go_ret
    exact ⟨rfl, rfl⟩
  all_goals
    go_enter Tryz.func37, Tryz.ntmps37
    go_wp2
    go_ret
    exact ⟨rfl, rfl⟩
theorem filter_yes {P : IE → Bool} {xs : List IE} {k : Nat} (hk : k < xs.length) (h : P xs[k] = true) : (xs.take (k + 1)).filter P = (xs.take k).filter P ++ [xs[k]] := by
  rw [List.take_succ_eq_append_getElem hk, List.filter_append]
  simp [h]
theorem filter_no {P : IE → Bool} {xs : List IE} {k : Nat} (hk : k < xs.length) (h : P xs[k] = false) : (xs.take (k + 1)).filter P = (xs.take k).filter P := by
  rw [List.take_succ_eq_append_getElem hk, List.filter_append]
  simp [h]
theorem filter_len (P : IE → Bool) (xs : List IE) (k : Nat) : ((xs.take k).filter P).length ≤ k := Nat.le_trans (List.length_filter_le _ _) (by rw [List.length_take]; omega)

set_option maxRecDepth 20000 in
set_option maxHeartbeats 2000000 in
theorem refAt_any (v vp : Value) (xs : List IE) (p : List (List UInt8)) (leaf : Int) (w : World) (hv : itsE w v xs) (hp : U.strsAt w vp p) (hn : xs.length ≤ 1000000) (hpn : p.length ≤ 2000000) (hs : ShortI xs) :
    Calls Tryz.prog 31 #[v, vp, .int .i64 leaf] w fun e w' => ∃ r, e = .returned r ∧ itsE w' r (xs.filter fun x => isAt p leaf x.1) ∧ Below w.heap.size w w' := by
  obtain ⟨ao, cap, rfl⟩ := hv.slice
  obtain ⟨qa, qn, qc, rfl⟩ := strs_slice hp
  obtain ⟨i0, hi0, hz0, hz1, hz2⟩ := iinfo81
  obtain ⟨n, hn0⟩ : ∃ n, n = xs.length := ⟨_, rfl⟩
  have HN : Hid (n = xs.length) := hn0
  rw [← hn0] at hv hn ⊢
  have HV : Hid (itsE w (.slice ao n cap) xs) := hv
  have HS : Hid (ShortI xs) := hs
  have HP : Hid (U.strsAt w (.slice qa qn qc) p) := hp
  obtain ⟨P, hP⟩ : ∃ P : IE → Bool, P = fun x => isAt p leaf x.1 := ⟨_, rfl⟩
  rw [← hP]
  have HPe : Hid (∀ x, P x = isAt p leaf x.1) := fun x => by rw [hP]
  clear hn0 hv hs hp hP
  go_enter Tryz.func31, Tryz.ntmps31
  go_wp2
  go_loopw [7, 8] (fun out i wr => ∃ (k : Nat) (acc : List IE), k ≤ n ∧ i = .int .i64 k ∧ Hid (acc = (xs.take k).filter P) ∧ wr.ownsRow w.heap.size 71 11 out acc.length (acc.flatMap icell) ∧ Below w.heap.size w wr) (fun _ i _ => n - (intOf i).toNat)
  case atStart => exact ⟨0, [], by omega, rfl, rfl, World.ownsRow_nil _ _ _ _, Below.refl _ _⟩
  case round =>
    obtain ⟨k, acc, hk, rfl, HA, hown, hbw⟩ := hrel
    by_cases hkn : k < n
    · have hkx : k < xs.length := by rw [← HN.out]; exact hkn
      obtain ⟨ad, rfl, -, hX, hXi⟩ := (HV.out.on hbw).get hkx
      have hsh := HS.out _ (List.getElem_mem hkx)
      have HYes : Hid (P xs[k] = true → acc ++ [xs[k]] = (xs.take (k + 1)).filter P) := by
        have h : P xs[k] = true → acc ++ [xs[k]] = (xs.take (k + 1)).filter P := fun h => by rw [filter_yes hkx h, HA.out]
        exact h
      have HNo : Hid (P xs[k] = false → acc = (xs.take (k + 1)).filter P) := by
        have h : P xs[k] = false → acc = (xs.take (k + 1)).filter P := fun h => by rw [filter_no hkx h]; exact HA.out
        exact h
      have hroom : acc.length + 1 ≤ 1000001 := by
        have := filter_len P xs k
        have h2 := congrArg List.length HA.out
        omega
      generalize xs[k] = x at *
      obtain ⟨it, pv, sv⟩ := x
      obtain ⟨pa, pn, pc, rfl⟩ := strs_slice hXi.1
      obtain ⟨sa, sn, sc, rfl⟩ := refs_slice hXi.2
      have hsh : Os.short it.o = true := hsh
      have hlen : it.o.p.length ≤ 2000000 := by have := (short_parts hsh).1.1; omega
      have hz : ∀ x ∈ it.o.p, x.length ≤ 2000000 := fun x hx => by have := (short_parts hsh).1.2 x hx; omega
      have HL := fun W => refLeaf_any it.o.k W
      have HC := fun W (hb : Below wr.heap.size wr W) => U.refCompare_any (.slice pa pn pc) (.slice qa qn qc) it.o.p p W hlen hpn hz (hXi.on hb).1 (U.strsAt_below HP.out (bchain hbw hb) (Nat.le_refl _))
      have hone := icell_one hXi
      have hi9 : (0 : Int) ≤ (k : Int) := by omega
      have hi8 : (k : Int) < (n : Int) := by omega
      have hPx := HPe.out ((it, .slice pa pn pc, .slice sa sn sc) : IE)
      obtain ⟨c0, c1, c2, c3, c4, c5, c6, c7, c8, c9, c10⟩ := hX
      clear HA hsh hlen hz hXi
      by_cases hlf : Os.leaf it.o.k = leaf
      · have hlb : (Os.leaf it.o.k == leaf) = true := by rw [hlf]; simp
        by_cases hc : it.o.p = p
        · have hcz : Pt.comp it.o.p p = 0 := by rw [hc]; exact Pt.comp_self p
          rw [hcz] at HC
          have HE : Hid (acc ++ [((it, .slice pa pn pc, .slice sa sn sc) : IE)] = (xs.take (k + 1)).filter P) := HYes.out (by rw [hPx]; exact decide_eq_true ⟨hlf, hc⟩)
          clear HYes HNo hPx
          go_wp2_with (first
            | (go_at_call 37; refine (HL _).mono ?_; rintro e w9 ⟨rfl, hw9⟩; have hw9 := hw9.symm; subst hw9)
            | (go_at_call 60; refine (HC _ (Below.refl _ _)).mono ?_; rintro e w1 ⟨rfl, hb1⟩; obtain ⟨c0, c1, c2, c3, c4, c5, c6, c7, c8, c9, c10⟩ := (IcAt.mk c0 c1 c2 c3 c4 c5 c6 c7 c8 c9 c10 : IcAt wr (ad.add (k * 11)) ((it, .slice pa pn pc, .slice sa sn sc) : IE)).on hb1)
            | (at_builtin; refine append_item (ST := 30) (T := 71) rfl Tryz.underlying30 hi0 hz0 hz1 hz2 rfl _ _ rfl w.heap.size (bchain hbw (bchain hb1 (below_new _ (.cells (icell ((it, .slice pa pn pc, .slice sa sn sc) : IE)).toArray 71)))).size _ acc rfl (own_on hown (bchain hb1 (below_new _ (.cells (icell ((it, .slice pa pn pc, .slice sa sn sc) : IE)).toArray 71)))) _ ((it, .slice pa pn pc, .slice sa sn sc) : IE) rfl (new_item w1 ((it, .slice pa pn pc, .slice sa sn sc) : IE) 71) hone hroom ?_; intro v2 w3 hown2 hg2)
            | go_in)
          go_roundw
          case rel => exact ⟨k + 1, acc ++ [((it, .slice pa pn pc, .slice sa sn sc) : IE)], by omega, by go_num, HE, hown2, (bchain hbw (bchain hb1 (below_new _ (.cells (icell ((it, .slice pa pn pc, .slice sa sn sc) : IE)).toArray 71)))).grown hg2 (bchain hbw (bchain hb1 (below_new _ (.cells (icell ((it, .slice pa pn pc, .slice sa sn sc) : IE)).toArray 71)))).size (fun g e => (hown.lt g e).1)⟩
          case measure => simp [intOf]; omega
        · have hcz : (Pt.comp it.o.p p == 0) = false := beq_eq_false_iff_ne.2 fun q => hc (Pt.comp_zero q)
          generalize Pt.comp it.o.p p = z at *
          have HE : Hid (acc = (xs.take (k + 1)).filter P) := HNo.out (by rw [hPx]; exact decide_eq_false fun q => hc q.2)
          clear HYes HNo hPx
          go_wp2_with (first
            | (go_at_call 37; refine (HL _).mono ?_; rintro e w9 ⟨rfl, hw9⟩; have hw9 := hw9.symm; subst hw9)
            | (go_at_call 60; refine (HC _ (Below.refl _ _)).mono ?_; rintro e w1 ⟨rfl, hb1⟩; obtain ⟨c0, c1, c2, c3, c4, c5, c6, c7, c8, c9, c10⟩ := (IcAt.mk c0 c1 c2 c3 c4 c5 c6 c7 c8 c9 c10 : IcAt wr (ad.add (k * 11)) ((it, .slice pa pn pc, .slice sa sn sc) : IE)).on hb1)
            | go_in)
          go_roundw
          case rel => exact ⟨k + 1, acc, by omega, by go_num, HE, own_on hown (hb1), bchain hbw (hb1)⟩
          case measure => simp [intOf]; omega
      · have hlb : (Os.leaf it.o.k == leaf) = false := beq_eq_false_iff_ne.2 hlf
        have HE : Hid (acc = (xs.take (k + 1)).filter P) := HNo.out (by rw [hPx]; exact decide_eq_false fun q => hlf q.1)
        clear HYes HNo hPx
        go_wp2_with (first
          | (go_at_call 37; refine (HL _).mono ?_; rintro e w9 ⟨rfl, hw9⟩; have hw9 := hw9.symm; subst hw9)
          | go_in)
        go_roundw
        case rel => exact ⟨k + 1, acc, by omega, by go_num, HE, own_on hown (Below.refl _ _), bchain hbw (Below.refl _ _)⟩
        case measure => simp [intOf]; omega
    · have HE : Hid (acc = xs.filter P) := by
        have h := HA.out
        rw [List.take_of_length_le (by rw [← HN.out]; omega)] at h
        exact h
      go_wp2
      go_ret
      refine ⟨_, rfl, ?_, hbw⟩
      rw [← HE.out]
      refine itsE_own hown fun x hx => ?_
      rw [HE.out] at hx
      exact (HV.out.2 x (List.mem_filter.1 hx).1).on hbw
end Go.Proofs.YtmnehekcealjhaaGreat.O
