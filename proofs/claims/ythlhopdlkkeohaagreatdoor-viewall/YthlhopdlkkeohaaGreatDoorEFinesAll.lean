/- The entries of items that may be: their lines can be told · The walks of view's Same, of its closure and of slices.EqualFunc, at the same entries · What Of, At, Text and Same tell, by the entries alone. -/
import Derived.Test.YthlhopdlkkeohaaGreatDoorLayJoinAll
import Derived.Test.YthlhopdlkkeohaaGreatDoorERefAtAll
import Derived.Test.YthlhopdlkkeohaaGreatDoorThinsAll
import Derived.Test.YthlhopdlkkeohaaGreatDoorVCompactAll
import Derived.Test.YthlhopdlkkeohaaGreatDoorTRightAll
import Derived.Test.YthlhopdlkkeohaaGreatDoorELineAll
import Derived.Test.YthlhopdlkkeohaaGreatDoorEOf
/- The entries of items that may be: their lines can be told. -/
namespace Go.Proofs.YthlhopdlkkeohaaGreatDoor.O
open Go.RowKit

/-- Items whose operations may be, and are short. -/
def FineI (its : List Lv.Item) : Prop := ∀ i ∈ its, Os.check i.o = 0 ∧ Os.short i.o = true ∧ Lv.able i.o.k = true
theorem fine_few {o : Os.Op} (h : Os.short o = true) : U.Few o.p := by
  simp only [Os.short, Pt.short, Bool.and_eq_true, decide_eq_true_eq, List.all_eq_true] at h
  exact ⟨h.1.1.1, fun x hx => by simpa using h.1.1.2 x hx⟩
/-- What stands at a Register's leaf, or a Bag's, is a right value. -/
theorem fine_right {i : Lv.Item} (h : Os.check i.o = 0) (hl : Os.leaf i.o.k = 1 ∨ Os.leaf i.o.k = 2) : Vl.Right (Rg.valOf i).1 (Rg.valOf i).2.1 (Rg.valOf i).2.2 := by
  obtain ⟨_, _, _, h4, _⟩ := Os.check_zero h
  have hk : Os.hv i.o.k = true := by
    simp only [Os.hv, decide_eq_true_eq]
    unfold Os.leaf at hl
    split at hl
    · exact .inl ‹_›
    · split at hl
      · rename_i h2; exact .inr h2
      · split at hl <;> omega
  unfold Os.rv at h4
  rw [if_pos hk] at h4
  exact Vl.right_iff.1 h4
theorem fine_amount {o : Os.Op} (h : Os.check o = 0) : -2147483647 ≤ o.n ∧ o.n ≤ 2147483647 := by
  obtain ⟨_, _, _, _, h5, _⟩ := Os.check_zero h
  unfold Os.ra at h5
  split at h5
  · have := of_decide_eq_true h5; omega
  · have := of_decide_eq_true h5; omega
theorem sum_fine {its : List Lv.Item} (h : FineI its) (hn : its.length ≤ 1000000) (p : List (List UInt8)) : -2147483647000000 ≤ Vw.sum its p ∧ Vw.sum its p ≤ 2147483647000000 := by
  have h1 := Li.ups_range 2147483647 (by decide) (Tr.nums its p) fun n hm => by
    obtain ⟨i, hi, rfl⟩ := List.mem_map.1 hm
    exact fine_amount (h i (List.mem_filter.1 hi).1).1
  have hl : (Tr.nums its p).length ≤ its.length := by
    unfold Tr.nums
    rw [List.length_map]
    exact List.length_filter_le _ _
  have h2 : ((Tr.nums its p).length : Int) * 2147483647 ≤ 1000000 * 2147483647 := Int.mul_le_mul_of_nonneg_right (by omega) (by decide)
  have h3 := Li.sum_ups (Tr.nums its p)
  unfold Vw.sum
  generalize ((Tr.nums its p).length : Int) * 2147483647 = q at *
  omega
/-- What is at a leaf of such items can be told. -/
theorem fine_at {its : List Lv.Item} (h : FineI its) (hn : its.length ≤ 1000000) {p : List (List UInt8)} (hp : U.Few p) (k : Int) : EFine (Vw.at' its p k) := by
  refine ⟨hp, fun v hv => ?_, Nat.le_trans (Vw.at_len its p k) hn, ?_, ?_⟩
  · unfold Vw.at' at hv
    dsimp only at hv
    split at hv
    · rename_i hk
      have hm := Rg.mem_vals.1 hv
      obtain ⟨i, hi, rfl⟩ := List.mem_map.1 hm
      obtain ⟨h1, h2⟩ := Tr.mem_atLeaf.1 hi
      refine fine_right (h i h1).1 ?_
      have e : Os.leaf i.o.k = k := congrArg Prod.snd h2
      omega
    · simp at hv
  · have := sum_fine h hn p
    unfold Vw.at'
    dsimp only
    split <;> omega
  · have := sum_fine h hn p
    unfold Vw.at'
    dsimp only
    split <;> omega
theorem fine_of {its : List Lv.Item} (h : FineI its) (hn : its.length ≤ 1000000) : ∀ e ∈ Vw.of its, EFine e := fun e he => by
  obtain ⟨x, hx, rfl⟩ := Vw.mem_of.1 he
  obtain ⟨i, hi, e1⟩ := Tr.mem_leaves.1 hx
  have e2 : i.o.p = x.1 := congrArg Prod.fst e1
  exact fine_at h hn (e2 ▸ fine_few (h i hi).2.1) x.2
/-- Of transactions that may be, all items are so. -/
theorem fine_all {l : List Tx.Txn} {sn : D → Bool} (h : ∀ t ∈ l, ∀ o ∈ t.ops, Os.short o = true ∧ (Os.gone o = true ∨ Os.check o = 0)) : FineI (Lv.all l sn) := fun i hi => by
  obtain ⟨t, ht, _, j, hj, ha, _, rfl⟩ := Lv.mem_all.1 hi
  obtain ⟨h1, h2⟩ := h t ht t.ops[j] (List.getElem_mem hj)
  refine ⟨?_, h1, ha⟩
  rcases h2 with h2 | h2
  · have e := Os.gone_is h2
    simp only [e] at ha
    exact absurd ha (by decide)
  · exact h2
end Go.Proofs.YthlhopdlkkeohaaGreatDoor.O
/- The walks of view's Same, of its closure and of slices.EqualFunc, at the same entries. -/
namespace Go.Proofs.YthlhopdlkkeohaaGreatDoor.O
open Go.RowKit

/-- An entry whose rows can be gone through. -/
def ELen (e : Vw.Entry) : Prop := e.p.length ≤ 2000000 ∧ e.l.length ≤ 1000000

set_option maxRecDepth 20000 in
set_option maxHeartbeats 2000000 in
/-- slices.Equal, at values. -/
theorem equalV_any (va vb : Value) (l : List Rg.Va) (w : World) (ha : valsIn w va l) (hb : valsIn w vb l) (hn : l.length ≤ 1000000) :
    Calls Tryz.prog 93 #[va, vb] w fun e w' => e = .returned (.bool true) ∧ Below w.heap.size w w' := by
  obtain ⟨ao, cx, rfl, _, _, _⟩ := id ha
  obtain ⟨bo, cy, rfl, _, _, _⟩ := id hb
  obtain ⟨n, hn0⟩ : ∃ n, n = l.length := ⟨_, rfl⟩
  have HN : Hid (n = l.length) := hn0
  rw [← hn0] at ha hb hn ⊢
  have HA : Hid (valsIn w (.slice ao n cx) l) := ha
  have HB : Hid (valsIn w (.slice bo n cy) l) := hb
  clear hn0 ha hb
  go_enter Tryz.func93, Tryz.ntmps93
  go_wp2
  go_loopw [5, 13] (fun _ i wr => ∃ k : Nat, k ≤ n ∧ i = .int .i64 k ∧ Below w.heap.size w wr) (fun _ i _ => n - (intOf i).toNat)
  case atStart => exact ⟨0, by omega, rfl, Below.refl _ _⟩
  case round =>
    obtain ⟨k, hk, rfl, hbw⟩ := hrel
    by_cases hkn : k < n
    · have hkx : k < l.length := by rw [← HN.out]; exact hkn
      obtain ⟨ax, rfl, hX⟩ := HA.out.get hkx
      obtain ⟨ay, rfl, hY⟩ := HB.out.get hkx
      obtain ⟨a0, a1, a2⟩ := hX.on hbw
      obtain ⟨b0, b1, b2⟩ := hY.on hbw
      have hE := neq_va l[k] l[k]
      simp only [decide_true, Bool.not_true] at hE
      have hi0 : (0 : Int) ≤ (k : Int) := by omega
      have hi1 : (k : Int) < (n : Int) := by omega
      clear hX hY
      generalize l[k] = x at *
      go_wp2
      go_region
      all_goals
        go_wp2
        go_roundw
        case rel => exact ⟨k + 1, by omega, by go_num, hbw.drew⟩
        case measure => simp [intOf]; omega
    · go_wp2
      go_ret
      exact ⟨rfl, hbw⟩

set_option maxRecDepth 20000 in
set_option maxHeartbeats 2000000 in
/-- Whether two entries are the same, at the same. -/
theorem vsame_any (x y : EE) (w : World) (hx : EOk w x) (hy : EOk w y) (he : x.1 = y.1) (hl : ELen x.1) :
    Calls Tryz.prog 54 #[entV x.2.1 x.1.k x.2.2 x.1.n, entV y.2.1 y.1.k y.2.2 y.1.n] w fun e w' => e = .returned (.bool true) ∧ Below w.heap.size w w' := by
  obtain ⟨⟨pa, pn, pc, e1⟩, ⟨la, ln, lc, e2⟩⟩ := hx.slices
  obtain ⟨⟨qa, qn, qc, e3⟩, ⟨ma, mn, mc, e4⟩⟩ := hy.slices
  obtain ⟨⟨p, k, l, n⟩, pv, lv⟩ := x
  obtain ⟨E, qv, mv⟩ := y
  obtain rfl : E = ⟨p, k, l, n⟩ := he.symm
  have e1 : pv = .slice pa pn pc := e1
  have e2 : lv = .slice la ln lc := e2
  have e3 : qv = .slice qa qn qc := e3
  have e4 : mv = .slice ma mn mc := e4
  subst e1 e2 e3 e4
  obtain ⟨hx1, hx2⟩ : U.strsAt w (.slice pa pn pc) p ∧ valsIn w (.slice la ln lc) l := hx
  obtain ⟨hy1, hy2⟩ : U.strsAt w (.slice qa qn qc) p ∧ valsIn w (.slice ma mn mc) l := hy
  obtain ⟨hl1, hl2⟩ : p.length ≤ 2000000 ∧ l.length ≤ 1000000 := hl
  show Calls Tryz.prog 54 #[entV (.slice pa pn pc) k (.slice la ln lc) n, entV (.slice qa qn qc) k (.slice ma mn mc) n] w _
  have HP : ∀ W, Below w.heap.size w W → Calls Tryz.prog 77 #[.slice pa pn pc, .slice qa qn qc] W fun e w' => e = .returned (.bool true) ∧ Below W.heap.size W w' := fun W hb => by
    have h := U.psame_any (.slice pa pn pc) (.slice qa qn qc) p p W hl1 (U.strsAt_below hx1 hb (Nat.le_refl _)) (U.strsAt_below hy1 hb (Nat.le_refl _))
    rw [decide_eq_true rfl] at h
    exact h
  have HL : ∀ W, Below w.heap.size w W → Calls Tryz.prog 93 #[.slice la ln lc, .slice ma mn mc] W fun e w' => e = .returned (.bool true) ∧ Below W.heap.size W w' := fun W hb =>
    equalV_any (.slice la ln lc) (.slice ma mn mc) l W (hx2.on hb) (hy2.on hb) hl2
  have VX : EVar ((w.alloc (entO (.slice pa pn pc) k (.slice la ln lc) n 38)).alloc (entO (.slice qa qn qc) k (.slice ma mn mc) n 38)) w.heap.size (.slice pa pn pc) k (.slice la ln lc) n := (EVar.new w _ _ _ _ 38).other _
  have VY : EVar ((w.alloc (entO (.slice pa pn pc) k (.slice la ln lc) n 38)).alloc (entO (.slice qa qn qc) k (.slice ma mn mc) n 38)) (w.heap.size + 1) (.slice qa qn qc) k (.slice ma mn mc) n := by
    have h := EVar.new (w.alloc (entO (.slice pa pn pc) k (.slice la ln lc) n 38)) (.slice qa qn qc) k (.slice ma mn mc) n 38
    rw [World.size_alloc] at h
    exact h
  have b2 := below_new2 w (entO (.slice pa pn pc) k (.slice la ln lc) n 38) (entO (.slice qa qn qc) k (.slice ma mn mc) n 38)
  clear hx1 hx2 hy1 hy2 hl1 hl2 he
  obtain ⟨x0, x1, x2, x3, _, _, _, _⟩ := id VX
  obtain ⟨y0, y1, y2, y3, _, _, _, _⟩ := id VY
  go_enter Tryz.func54, Tryz.ntmps54
  go_wp2_with (first
    | (go_at_call 77; refine (HP _ b2).mono ?_; rintro e w1 ⟨rfl, hb1⟩; have VX1 := VX.on hb1; have VY1 := VY.on hb1; obtain ⟨c0, c1, c2, c3, _, _, _, _⟩ := id VX1; obtain ⟨d0, d1, d2, d3, _, _, _, _⟩ := id VY1)
    | (go_at_call 93; refine (HL _ (bchain b2 hb1)).mono ?_; rintro e w2 ⟨rfl, hb2⟩; have VX2 := VX1.on hb2; have VY2 := VY1.on hb2; obtain ⟨f0, f1, f2, f3, _, _, _, _⟩ := id VX2; obtain ⟨g0, g1, g2, g3, _, _, _, _⟩ := id VY2))
  go_ret
  exact ⟨rfl, bchain b2 (bchain hb1 hb2)⟩

set_option maxRecDepth 20000 in
set_option maxHeartbeats 4000000 in
/-- slices.EqualFunc, at the same entries. -/
theorem vequal_any (va vb : Value) (xs ys : List EE) (w : World) (ha : entsE w va xs) (hb : entsE w vb ys) (he : xs.map Prod.fst = ys.map Prod.fst) (hf : ∀ x ∈ xs, ELen x.1) (hn : xs.length ≤ 1000000) :
    Calls Tryz.prog 53 #[va, vb, .func (.func 54) #[] #[]] w fun e w' => e = .returned (.bool true) ∧ Below w.heap.size w w' := by
  obtain ⟨ao, cap, rfl⟩ := ha.slice
  obtain ⟨bo, cbp, rfl⟩ := hb.slice
  have hl : ys.length = xs.length := by have := congrArg List.length he; simpa using this.symm
  rw [hl] at hb ⊢
  obtain ⟨n, hn0⟩ : ∃ n, n = xs.length := ⟨_, rfl⟩
  have HN : Hid (n = xs.length) := hn0
  have HY : Hid (ys.length = n) := by rw [hn0]; exact hl
  rw [← hn0] at ha hb hn ⊢
  have HA : Hid (entsE w (.slice ao n cap) xs) := ha
  have HB : Hid (entsE w (.slice bo n cbp) ys) := hb
  have HE : Hid (xs.map Prod.fst = ys.map Prod.fst) := he
  have HF : Hid (∀ x ∈ xs, ELen x.1) := hf
  obtain ⟨i0, hI0, hz0, hz1, hz2⟩ := einfo38
  clear hn0 ha hb he hf hl
  go_enter Tryz.func53, Tryz.ntmps53
  go_wp2
  go_loopw [7, 8, 9, 17] (fun _ _ _ i wr => ∃ k : Nat, k ≤ n ∧ i = .int .i64 k ∧ Below w.heap.size w wr) (fun _ _ _ i _ => n - (intOf i).toNat)
  case atStart => exact ⟨0, by omega, rfl, Below.refl _ _⟩
  case round =>
    obtain ⟨k, hk, rfl, hbw⟩ := hrel
    by_cases hkn : k < n
    · have hkx : k < xs.length := by rw [← HN.out]; exact hkn
      have hky : k < ys.length := by rw [HY.out]; exact hkn
      obtain ⟨ax, rfl, -, hX, hXo⟩ := (HA.out.on hbw).get hkx
      obtain ⟨ay, rfl, -, hY, hYo⟩ := (HB.out.on hbw).get hky
      have hfx := HF.out _ (List.getElem_mem hkx)
      have e1 : xs[k].1 = ys[k].1 := by
        have h := congrArg (fun l => l[k]?) HE.out
        simp only [List.getElem?_map, List.getElem?_eq_getElem hkx, List.getElem?_eq_getElem hky, Option.map_some, Option.some.injEq] at h
        exact h
      generalize xs[k] = X at *
      generalize ys[k] = Y at *
      obtain ⟨⟨p9, z, l9, m9⟩, pv, lv⟩ := X
      obtain ⟨⟨p8, z8, l8, m8⟩, qv, jv⟩ := Y
      have HC := fun W (hb : Below wr.heap.size wr W) => vsame_any _ _ W (hXo.on hb) (hYo.on hb) e1 hfx
      obtain ⟨⟨pa, pn, pc, e1⟩, ⟨la, ln, lc, e2⟩⟩ := hXo.slices
      obtain ⟨⟨qa, qn, qc, e3⟩, ⟨ja, jn, jc, e4⟩⟩ := hYo.slices
      have e1 : pv = .slice pa pn pc := e1
      have e2 : lv = .slice la ln lc := e2
      have e3 : qv = .slice qa qn qc := e3
      have e4 : jv = .slice ja jn jc := e4
      subst e1 e2 e3 e4
      have HC2 := HC ((wr.alloc (entO (.slice pa pn pc) z (.slice la ln lc) m9 38)).alloc (entO (.slice qa qn qc) z8 (.slice ja jn jc) m8 38)) (below_new2 _ _ _)
      have b2 := below_new2 wr (entO (.slice pa pn pc) z (.slice la ln lc) m9 38) (entO (.slice qa qn qc) z8 (.slice ja jn jc) m8 38)
      obtain ⟨a0, a1, a2, a3⟩ := hX
      obtain ⟨b0, b1, b2', b3⟩ := hY.on (below_new wr (entO (.slice pa pn pc) z (.slice la ln lc) m9 38))
      have VX : EVar ((wr.alloc (entO (.slice pa pn pc) z (.slice la ln lc) m9 38)).alloc (entO (.slice qa qn qc) z8 (.slice ja jn jc) m8 38)) wr.heap.size (.slice pa pn pc) z (.slice la ln lc) m9 := (EVar.new wr _ _ _ _ 38).other _
      have VY : EVar ((wr.alloc (entO (.slice pa pn pc) z (.slice la ln lc) m9 38)).alloc (entO (.slice qa qn qc) z8 (.slice ja jn jc) m8 38)) (wr.heap.size + 1) (.slice qa qn qc) z8 (.slice ja jn jc) m8 := by
        have h := EVar.new (wr.alloc (entO (.slice pa pn pc) z (.slice la ln lc) m9 38)) (.slice qa qn qc) z8 (.slice ja jn jc) m8 38
        rw [World.size_alloc] at h
        exact h
      obtain ⟨x0, x1, x2, x3, _, _, _, _⟩ := VX
      obtain ⟨y0, y1, y2, y3, _, _, _, _⟩ := VY
      dsimp only at a0 a1 a2 a3 b0 b1 b2' b3
      have hi0 : (0 : Int) ≤ (k : Int) := by omega
      have hi1 : (k : Int) < (n : Int) := by omega
      clear HC hXo hYo hY hfx
      go_wp2_with (go_at_call 54; refine HC2.mono ?_; rintro e w1 ⟨rfl, hb1⟩)
      go_roundw
      case rel => exact ⟨k + 1, by omega, by go_num, bchain hbw (bchain b2 hb1)⟩
      case measure => simp [intOf]; omega
    · go_wp2
      go_ret
      exact ⟨rfl, hbw⟩

set_option maxRecDepth 20000 in
/-- view's Same, at the same entries. -/
theorem same18_any (va vb : Value) (xs ys : List EE) (w : World) (ha : entsE w va xs) (hb : entsE w vb ys) (he : xs.map Prod.fst = ys.map Prod.fst) (hf : ∀ x ∈ xs, ELen x.1) (hn : xs.length ≤ 1000000) :
    Calls Tryz.prog 20 #[va, vb] w fun e w' => e = .returned (.bool true) ∧ Below w.heap.size w w' := by
  have HC := vequal_any va vb xs ys w ha hb he hf hn
  obtain ⟨ao, cap, rfl⟩ := ha.slice
  obtain ⟨bo, cbp, rfl⟩ := hb.slice
  clear ha hb he hf hn
  generalize xs.length = n at *
  generalize ys.length = m at *
  go_enter Tryz.func20, Tryz.ntmps20
  go_wp2_with (go_at_call 53; refine HC.mono ?_; rintro e w1 ⟨rfl, hb1⟩)
  go_ret
  exact ⟨rfl, hb1⟩
end Go.Proofs.YthlhopdlkkeohaaGreatDoor.O
/- What Of, At, Text and Same tell, by the entries alone. -/
namespace Go.Proofs.YthlhopdlkkeohaaGreatDoor.O
open Go.RowKit

/-- Entries in memory that are these. -/
def EntsAt (es : List Vw.Entry) (w : World) (r : Value) : Prop := ∃ xs : List EE, entsE w r xs ∧ xs.map Prod.fst = es
theorem EntsAt.on {es : List Vw.Entry} {w w' : World} {r : Value} (h : EntsAt es w r) (hb : Below w.heap.size w w') : EntsAt es w' r := by
  obtain ⟨xs, h1, h2⟩ := h
  exact ⟨xs, h1.on hb, h2⟩
theorem EntsAt.slice {es : List Vw.Entry} {w : World} {r : Value} (h : EntsAt es w r) : ∃ ao cap, r = .slice ao es.length cap := by
  obtain ⟨xs, h1, h2⟩ := h
  obtain ⟨ao, cap, e⟩ := h1.slice
  exact ⟨ao, cap, by rw [e, ← h2, List.length_map]⟩
theorem EntsAt.get {es : List Vw.Entry} {w : World} {ao : Option Addr} {n cap : Nat} (h : EntsAt es w (.slice ao n cap)) {k : Nat} (hk : k < es.length) :
    ∃ ad pa pn pc ra rn rk, ao = some ad ∧ EcAt w (ad.add (k * 4)) (es[k], .slice pa pn pc, .slice ra rn rk) ∧ EOk w (es[k], .slice pa pn pc, .slice ra rn rk) := by
  obtain ⟨xs, h1, rfl⟩ := h
  have hk' : k < xs.length := by simpa using hk
  obtain ⟨ad, e, _, h3, h4⟩ := h1.get hk'
  obtain ⟨⟨pa, pn, pc, e1⟩, ⟨ra, rn, rk, e2⟩⟩ := h4.slices
  have e3 : xs[k] = ((xs.map Prod.fst)[k], .slice pa pn pc, .slice ra rn rk) := by
    rw [List.getElem_map]
    exact Prod.ext rfl (Prod.ext e1 e2)
  exact ⟨ad, pa, pn, pc, ra, rn, rk, e, e3 ▸ h3, e3 ▸ h4⟩
theorem ents_one {w : World} {e : Vw.Entry} {pv lv : Value} (h : EOk w (e, pv, lv)) (T : TypeId) : EntsAt [e] (w.alloc (.cells #[pv, .int .i64 e.k, lv, .int .i64 e.n] T)) (.slice (some ⟨w.heap.size, 0, none⟩) 1 1) := by
  have hb := below_new w (.cells #[pv, .int .i64 e.k, lv, .int .i64 e.n] T)
  refine ⟨[(e, pv, lv)], ⟨⟨some ⟨w.heap.size, 0, none⟩, 1, rfl, Nat.le_refl _, fun q => by simp at q, fun j u hu => ⟨_, rfl, ?_⟩⟩, fun x hx => ?_⟩, rfl⟩
  · rw [List.flatMap_singleton] at hu
    exact new_cells w (ecell (e, pv, lv)) T j u hu
  · rw [List.mem_singleton.1 hx]
    exact h.on hb
/-- Of transactions that may be, all items may be, and are short. -/
theorem all_fine {ts : List Tx.Txn} {sn : D → Bool} (h : ∀ t ∈ ts, okT t = true) : FineI (Lv.all ts sn) := fine_all fun t ht o ho => by
  have h1 := okT_parts (h t ht)
  refine ⟨(tshort_parts h1.1).2 o ho, ?_⟩
  rcases (Tx.check_zero h1.2).2.2.2.2 o ho with h2 | ⟨_, h2⟩
  · exact .inr h2
  · exact .inl h2
theorem its_small {xs : List IE} {its : List Lv.Item} (h : xs.map (·.1) = its) (hf : FineI its) : C.SmallN xs := fun x hx => by
  have hm : x.1 ∈ its := by rw [← h]; exact List.mem_map.2 ⟨x, hx, rfl⟩
  exact fine_amount (hf _ hm).1
section
variable {its : List Lv.Item} {r vp : Value} {p : List (List UInt8)} {k : Int} {w : World}
theorem of_at (h : ItsAt its w r) (hf : FineI its) : Calls Tryz.prog 11 #[r] w fun e w' => ∃ q, e = .returned q ∧ EntsAt (Vw.of its) w' q ∧ Below w.heap.size w w' := by
  obtain ⟨xs, h1, h2, h3, h4⟩ := h
  refine (of18_any r xs its w h1 h2 h4 h3 (its_small h2 hf)).mono ?_
  rintro e w' ⟨q, es, rfl, e2, e3, e4⟩
  exact ⟨q, rfl, ⟨es, e3, e2⟩, e4⟩
theorem at_at (h : ItsAt its w r) (hf : FineI its) (hp : U.strsAt w vp p) (hn : p.length ≤ 1000000) : Calls Tryz.prog 13 #[r, vp, .int .i64 k] w fun e w' =>
    ∃ pa pn pc ra rn rk, e = .returned (entV (.slice pa pn pc) k (.slice ra rn rk) (Vw.at' its p k).n) ∧ EOk w' (Vw.at' its p k, .slice pa pn pc, .slice ra rn rk) ∧ rn = (Vw.at' its p k).l.length ∧ Below w.heap.size w w' := by
  obtain ⟨xs, h1, h2, h3, h4⟩ := h
  refine (at18_any r vp xs its p k w h1 h2 hp h4 hn h3 (its_small h2 hf)).mono ?_
  rintro e w' ⟨pa, pn, pc, ra, rn, rk, rfl, e2, e3, e4⟩
  have hv : valsIn w' (.slice ra rn rk) (Vw.at' its p k).l := e3.rows vcell_len
  obtain ⟨a, b, q⟩ := hv.slice
  obtain ⟨rfl, rfl, rfl⟩ : ra = a ∧ rn = (Vw.at' its p k).l.length ∧ rk = b := by simpa using q
  exact ⟨pa, pn, pc, ra, _, rk, rfl, ⟨U.strsAt_own e2, hv⟩, rfl, e4⟩
end
section
variable {es : List Vw.Entry} {va vb : Value} {w : World}
theorem efine_of {xs : List EE} (h : xs.map Prod.fst = es) (hf : ∀ e ∈ es, EFine e) : ∀ x ∈ xs, EFine x.1 := fun x hx => hf _ (by rw [← h]; exact List.mem_map.2 ⟨x, hx, rfl⟩)
theorem elen_of {xs : List EE} (h : xs.map Prod.fst = es) : xs.length = es.length := by rw [← h, List.length_map]
theorem few_len {e : Vw.Entry} (h : EFine e) : ELen e := ⟨by have := h.few.1; omega, h.len⟩
theorem text_at (hk : N.Keeps w) (h : EntsAt es w va) (hf : ∀ e ∈ es, EFine e) (hn : es.length ≤ 100000) : Calls Tryz.prog 18 #[va] w fun e w' => e = .returned (.string ⟨(linesE es).toArray⟩) ∧ Below w.heap.size w w' := by
  obtain ⟨xs, h1, h2⟩ := h
  have a := text18_any va xs w hk h1 (efine_of h2 hf) (by rw [elen_of h2]; exact hn)
  rw [h2] at a
  exact a
theorem same_at (ha : EntsAt es w va) (hb : EntsAt es w vb) (hf : ∀ e ∈ es, EFine e) (hn : es.length ≤ 100000) : Calls Tryz.prog 20 #[va, vb] w fun e w' => e = .returned (.bool true) ∧ Below w.heap.size w w' := by
  obtain ⟨xs, h1, h2⟩ := ha
  obtain ⟨ys, h3, h4⟩ := hb
  exact same18_any va vb xs ys w h1 h3 (h2.trans h4.symm) (fun x hx => few_len (efine_of h2 hf x hx)) (by rw [elen_of h2]; omega)
end
end Go.Proofs.YthlhopdlkkeohaaGreatDoor.O
