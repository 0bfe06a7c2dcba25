/- The walks of view's Same, of its closure and of slices.EqualFunc, at the same entries · What Of, At, Text and Same tell, by the entries alone · The chapter's example: a = 1 2 · Loads of entries; what the program's calls tell of the transactions' items, gathered for the walks · One thing of a row that a call owns is written: the row owns what it then holds; how a loop that lays a thing in its place by shifting stands · The walk of the document's Keys. -/
import Derived.Test.YthlhopdlkkeohaaGreatDoorCRefAll
import Derived.Test.YthlhopdlkkeohaaGreatDoorThinsAll
import Derived.Test.YthlhopdlkkeohaaGreatDoorVCompactAll
import Derived.Test.YthlhopdlkkeohaaGreatDoorTRightAll
import Derived.Test.YthlhopdlkkeohaaGreatDoorERefLineAll
import Derived.Test.YthlhopdlkkeohaaGreatDoorEOfAll
import Derived.Test.YthlhopdlkkeohaaGreatDoorChecksAll
import Derived.Shelf.GgSortFunc.RowK
import Derived.Test.YthlhopdlkkeohaaGreatDoorTKeysAll
import Derived.Test.YthlhopdlkkeohaaGreatDoorValMemAll
/- The walks of view's Same, of its closure and of slices.EqualFunc, at the same entries. -/
namespace Go.Proofs.YthlhopdlkkeohaaGreatDoor.O
open Go.RowKit

/-- An entry whose rows can be gone through. -/
def ELen (e : Vw.Entry) : Prop := e.p.length ≤ 2000000 ∧ e.l.length ≤ 1000000

set_option maxRecDepth 20000 in
set_option maxHeartbeats 2000000 in
/-- slices.Equal, at values. -/
theorem equalV_any (va vb : Value) (l : List Rg.Va) (w : World) (ha : valsIn w va l) (hb : valsIn w vb l) (hn : l.length ≤ 1000000) :
    Calls Tryz.prog 93 #[va, vb] w fun e w' => e = .returned (.bool true) ∧ Below w.heap.size w w' := by
  obtain ⟨ao, cx, rfl, _, _, _⟩ := id ha
  obtain ⟨bo, cy, rfl, _, _, _⟩ := id hb
  obtain ⟨n, hn0⟩ : ∃ n, n = l.length := ⟨_, rfl⟩
  have HN : Hid (n = l.length) := hn0
  rw [← hn0] at ha hb hn ⊢
  have HA : Hid (valsIn w (.slice ao n cx) l) := ha
  have HB : Hid (valsIn w (.slice bo n cy) l) := hb
  clear hn0 ha hb
  go_enter Tryz.func93, Tryz.ntmps93
  go_wp2
  go_loopw [5, 13] (fun _ i wr => ∃ k : Nat, k ≤ n ∧ i = .int .i64 k ∧ Below w.heap.size w wr) (fun _ i _ => n - (intOf i).toNat)
  case atStart => exact ⟨0, by omega, rfl, Below.refl _ _⟩
  case round =>
    obtain ⟨k, hk, rfl, hbw⟩ := hrel
    by_cases hkn : k < n
    · have hkx : k < l.length := by rw [← HN.out]; exact hkn
      obtain ⟨ax, rfl, hX⟩ := HA.out.get hkx
      obtain ⟨ay, rfl, hY⟩ := HB.out.get hkx
      obtain ⟨a0, a1, a2⟩ := hX.on hbw
      obtain ⟨b0, b1, b2⟩ := hY.on hbw
      have hE := neq_va l[k] l[k]
      simp only [decide_true, Bool.not_true] at hE
      have hi0 : (0 : Int) ≤ (k : Int) := by omega
      have hi1 : (k : Int) < (n : Int) := by omega
      clear hX hY
      generalize l[k] = x at *
      go_wp2
      go_region
      all_goals
        go_wp2
        go_roundw
        case rel => exact ⟨k + 1, by omega, by go_num, hbw.drew⟩
        case measure => simp [intOf]; omega
    · go_wp2
      go_ret
      exact ⟨rfl, hbw⟩

set_option maxRecDepth 20000 in
set_option maxHeartbeats 2000000 in
/-- Whether two entries are the same, at the same. -/
theorem vsame_any (x y : EE) (w : World) (hx : EOk w x) (hy : EOk w y) (he : x.1 = y.1) (hl : ELen x.1) :
    Calls Tryz.prog 54 #[entV x.2.1 x.1.k x.2.2 x.1.n, entV y.2.1 y.1.k y.2.2 y.1.n] w fun e w' => e = .returned (.bool true) ∧ Below w.heap.size w w' := by
  obtain ⟨⟨pa, pn, pc, e1⟩, ⟨la, ln, lc, e2⟩⟩ := hx.slices
  obtain ⟨⟨qa, qn, qc, e3⟩, ⟨ma, mn, mc, e4⟩⟩ := hy.slices
  obtain ⟨⟨p, k, l, n⟩, pv, lv⟩ := x
  obtain ⟨E, qv, mv⟩ := y
  obtain rfl : E = ⟨p, k, l, n⟩ := he.symm
  have e1 : pv = .slice pa pn pc := e1
  have e2 : lv = .slice la ln lc := e2
  have e3 : qv = .slice qa qn qc := e3
  have e4 : mv = .slice ma mn mc := e4
  subst e1 e2 e3 e4
  obtain ⟨hx1, hx2⟩ : U.strsAt w (.slice pa pn pc) p ∧ valsIn w (.slice la ln lc) l := hx
  obtain ⟨hy1, hy2⟩ : U.strsAt w (.slice qa qn qc) p ∧ valsIn w (.slice ma mn mc) l := hy
  obtain ⟨hl1, hl2⟩ : p.length ≤ 2000000 ∧ l.length ≤ 1000000 := hl
  show Calls Tryz.prog 54 #[entV (.slice pa pn pc) k (.slice la ln lc) n, entV (.slice qa qn qc) k (.slice ma mn mc) n] w _
  have HP : ∀ W, Below w.heap.size w W → Calls Tryz.prog 77 #[.slice pa pn pc, .slice qa qn qc] W fun e w' => e = .returned (.bool true) ∧ Below W.heap.size W w' := fun W hb => by
    have h := U.psame_any (.slice pa pn pc) (.slice qa qn qc) p p W hl1 (U.strsAt_below hx1 hb (Nat.le_refl _)) (U.strsAt_below hy1 hb (Nat.le_refl _))
    rw [decide_eq_true rfl] at h
    exact h
  have HL : ∀ W, Below w.heap.size w W → Calls Tryz.prog 93 #[.slice la ln lc, .slice ma mn mc] W fun e w' => e = .returned (.bool true) ∧ Below W.heap.size W w' := fun W hb =>
    equalV_any (.slice la ln lc) (.slice ma mn mc) l W (hx2.on hb) (hy2.on hb) hl2
  have VX : EVar ((w.alloc (entO (.slice pa pn pc) k (.slice la ln lc) n 38)).alloc (entO (.slice qa qn qc) k (.slice ma mn mc) n 38)) w.heap.size (.slice pa pn pc) k (.slice la ln lc) n := (EVar.new w _ _ _ _ 38).other _
  have VY : EVar ((w.alloc (entO (.slice pa pn pc) k (.slice la ln lc) n 38)).alloc (entO (.slice qa qn qc) k (.slice ma mn mc) n 38)) (w.heap.size + 1) (.slice qa qn qc) k (.slice ma mn mc) n := by
    have h := EVar.new (w.alloc (entO (.slice pa pn pc) k (.slice la ln lc) n 38)) (.slice qa qn qc) k (.slice ma mn mc) n 38
    rw [World.size_alloc] at h
    exact h
  have b2 := below_new2 w (entO (.slice pa pn pc) k (.slice la ln lc) n 38) (entO (.slice qa qn qc) k (.slice ma mn mc) n 38)
  clear hx1 hx2 hy1 hy2 hl1 hl2 he
  obtain ⟨x0, x1, x2, x3, _, _, _, _⟩ := id VX
  obtain ⟨y0, y1, y2, y3, _, _, _, _⟩ := id VY
  go_enter Tryz.func54, Tryz.ntmps54
  go_wp2_with (first
    | (go_at_call 77; refine (HP _ b2).mono ?_; rintro e w1 ⟨rfl, hb1⟩; have VX1 := VX.on hb1; have VY1 := VY.on hb1; obtain ⟨c0, c1, c2, c3, _, _, _, _⟩ := id VX1; obtain ⟨d0, d1, d2, d3, _, _, _, _⟩ := id VY1)
    | (go_at_call 93; refine (HL _ (bchain b2 hb1)).mono ?_; rintro e w2 ⟨rfl, hb2⟩; have VX2 := VX1.on hb2; have VY2 := VY1.on hb2; obtain ⟨f0, f1, f2, f3, _, _, _, _⟩ := id VX2; obtain ⟨g0, g1, g2, g3, _, _, _, _⟩ := id VY2))
  go_ret
  exact ⟨rfl, bchain b2 (bchain hb1 hb2)⟩

set_option maxRecDepth 20000 in
set_option maxHeartbeats 4000000 in
/-- slices.EqualFunc, at the same entries. -/
theorem vequal_any (va vb : Value) (xs ys : List EE) (w : World) (ha : entsE w va xs) (hb : entsE w vb ys) (he : xs.map Prod.fst = ys.map Prod.fst) (hf : ∀ x ∈ xs, ELen x.1) (hn : xs.length ≤ 1000000) :
    Calls Tryz.prog 53 #[va, vb, .func (.func 54) #[] #[]] w fun e w' => e = .returned (.bool true) ∧ Below w.heap.size w w' := by
  obtain ⟨ao, cap, rfl⟩ := ha.slice
  obtain ⟨bo, cbp, rfl⟩ := hb.slice
  have hl : ys.length = xs.length := by have := congrArg List.length he; simpa using this.symm
  rw [hl] at hb ⊢
  obtain ⟨n, hn0⟩ : ∃ n, n = xs.length := ⟨_, rfl⟩
  have HN : Hid (n = xs.length) := hn0
  have HY : Hid (ys.length = n) := by rw [hn0]; exact hl
  rw [← hn0] at ha hb hn ⊢
  have HA : Hid (entsE w (.slice ao n cap) xs) := ha
  have HB : Hid (entsE w (.slice bo n cbp) ys) := hb
  have HE : Hid (xs.map Prod.fst = ys.map Prod.fst) := he
  have HF : Hid (∀ x ∈ xs, ELen x.1) := hf
  obtain ⟨i0, hI0, hz0, hz1, hz2⟩ := einfo38
  clear hn0 ha hb he hf hl
  go_enter Tryz.func53, Tryz.ntmps53
  go_wp2
  go_loopw [7, 8, 9, 17] (fun _ _ _ i wr => ∃ k : Nat, k ≤ n ∧ i = .int .i64 k ∧ Below w.heap.size w wr) (fun _ _ _ i _ => n - (intOf i).toNat)
  case atStart => exact ⟨0, by omega, rfl, Below.refl _ _⟩
  case round =>
    obtain ⟨k, hk, rfl, hbw⟩ := hrel
    by_cases hkn : k < n
    · have hkx : k < xs.length := by rw [← HN.out]; exact hkn
      have hky : k < ys.length := by rw [HY.out]; exact hkn
      obtain ⟨ax, rfl, -, hX, hXo⟩ := (HA.out.on hbw).get hkx
      obtain ⟨ay, rfl, -, hY, hYo⟩ := (HB.out.on hbw).get hky
      have hfx := HF.out _ (List.getElem_mem hkx)
      have e1 : xs[k].1 = ys[k].1 := by
        have h := congrArg (fun l => l[k]?) HE.out
        simp only [List.getElem?_map, List.getElem?_eq_getElem hkx, List.getElem?_eq_getElem hky, Option.map_some, Option.some.injEq] at h
        exact h
      generalize xs[k] = X at *
      generalize ys[k] = Y at *
      obtain ⟨⟨p9, z, l9, m9⟩, pv, lv⟩ := X
      obtain ⟨⟨p8, z8, l8, m8⟩, qv, jv⟩ := Y
      have HC := fun W (hb : Below wr.heap.size wr W) => vsame_any _ _ W (hXo.on hb) (hYo.on hb) e1 hfx
      obtain ⟨⟨pa, pn, pc, e1⟩, ⟨la, ln, lc, e2⟩⟩ := hXo.slices
      obtain ⟨⟨qa, qn, qc, e3⟩, ⟨ja, jn, jc, e4⟩⟩ := hYo.slices
      have e1 : pv = .slice pa pn pc := e1
      have e2 : lv = .slice la ln lc := e2
      have e3 : qv = .slice qa qn qc := e3
      have e4 : jv = .slice ja jn jc := e4
      subst e1 e2 e3 e4
      have HC2 := HC ((wr.alloc (entO (.slice pa pn pc) z (.slice la ln lc) m9 38)).alloc (entO (.slice qa qn qc) z8 (.slice ja jn jc) m8 38)) (below_new2 _ _ _)
      have b2 := below_new2 wr (entO (.slice pa pn pc) z (.slice la ln lc) m9 38) (entO (.slice qa qn qc) z8 (.slice ja jn jc) m8 38)
      obtain ⟨a0, a1, a2, a3⟩ := hX
      obtain ⟨b0, b1, b2', b3⟩ := hY.on (below_new wr (entO (.slice pa pn pc) z (.slice la ln lc) m9 38))
      have VX : EVar ((wr.alloc (entO (.slice pa pn pc) z (.slice la ln lc) m9 38)).alloc (entO (.slice qa qn qc) z8 (.slice ja jn jc) m8 38)) wr.heap.size (.slice pa pn pc) z (.slice la ln lc) m9 := (EVar.new wr _ _ _ _ 38).other _
      have VY : EVar ((wr.alloc (entO (.slice pa pn pc) z (.slice la ln lc) m9 38)).alloc (entO (.slice qa qn qc) z8 (.slice ja jn jc) m8 38)) (wr.heap.size + 1) (.slice qa qn qc) z8 (.slice ja jn jc) m8 := by
        have h := EVar.new (wr.alloc (entO (.slice pa pn pc) z (.slice la ln lc) m9 38)) (.slice qa qn qc) z8 (.slice ja jn jc) m8 38
        rw [World.size_alloc] at h
        exact h
      obtain ⟨x0, x1, x2, x3, _, _, _, _⟩ := VX
      obtain ⟨y0, y1, y2, y3, _, _, _, _⟩ := VY
      dsimp only at a0 a1 a2 a3 b0 b1 b2' b3
      have hi0 : (0 : Int) ≤ (k : Int) := by omega
      have hi1 : (k : Int) < (n : Int) := by omega
      clear HC hXo hYo hY hfx
      go_wp2_with (go_at_call 54; refine HC2.mono ?_; rintro e w1 ⟨rfl, hb1⟩)
      go_roundw
      case rel => exact ⟨k + 1, by omega, by go_num, bchain hbw (bchain b2 hb1)⟩
      case measure => simp [intOf]; omega
    · go_wp2
      go_ret
      exact ⟨rfl, hbw⟩

set_option maxRecDepth 20000 in
/-- view's Same, at the same entries. -/
theorem same18_any (va vb : Value) (xs ys : List EE) (w : World) (ha : entsE w va xs) (hb : entsE w vb ys) (he : xs.map Prod.fst = ys.map Prod.fst) (hf : ∀ x ∈ xs, ELen x.1) (hn : xs.length ≤ 1000000) :
    Calls Tryz.prog 20 #[va, vb] w fun e w' => e = .returned (.bool true) ∧ Below w.heap.size w w' := by
  have HC := vequal_any va vb xs ys w ha hb he hf hn
  obtain ⟨ao, cap, rfl⟩ := ha.slice
  obtain ⟨bo, cbp, rfl⟩ := hb.slice
  clear ha hb he hf hn
  generalize xs.length = n at *
  generalize ys.length = m at *
  go_enter Tryz.func20, Tryz.ntmps20
  go_wp2_with (go_at_call 53; refine HC.mono ?_; rintro e w1 ⟨rfl, hb1⟩)
  go_ret
  exact ⟨rfl, hb1⟩
end Go.Proofs.YthlhopdlkkeohaaGreatDoor.O
/- What Of, At, Text and Same tell, by the entries alone. -/
namespace Go.Proofs.YthlhopdlkkeohaaGreatDoor.O
open Go.RowKit

/-- Entries in memory that are these. -/
def EntsAt (es : List Vw.Entry) (w : World) (r : Value) : Prop := ∃ xs : List EE, entsE w r xs ∧ xs.map Prod.fst = es
theorem EntsAt.on {es : List Vw.Entry} {w w' : World} {r : Value} (h : EntsAt es w r) (hb : Below w.heap.size w w') : EntsAt es w' r := by
  obtain ⟨xs, h1, h2⟩ := h
  exact ⟨xs, h1.on hb, h2⟩
theorem EntsAt.slice {es : List Vw.Entry} {w : World} {r : Value} (h : EntsAt es w r) : ∃ ao cap, r = .slice ao es.length cap := by
  obtain ⟨xs, h1, h2⟩ := h
  obtain ⟨ao, cap, e⟩ := h1.slice
  exact ⟨ao, cap, by rw [e, ← h2, List.length_map]⟩
theorem EntsAt.get {es : List Vw.Entry} {w : World} {ao : Option Addr} {n cap : Nat} (h : EntsAt es w (.slice ao n cap)) {k : Nat} (hk : k < es.length) :
    ∃ ad pa pn pc ra rn rk, ao = some ad ∧ EcAt w (ad.add (k * 4)) (es[k], .slice pa pn pc, .slice ra rn rk) ∧ EOk w (es[k], .slice pa pn pc, .slice ra rn rk) := by
  obtain ⟨xs, h1, rfl⟩ := h
  have hk' : k < xs.length := by simpa using hk
  obtain ⟨ad, e, _, h3, h4⟩ := h1.get hk'
  obtain ⟨⟨pa, pn, pc, e1⟩, ⟨ra, rn, rk, e2⟩⟩ := h4.slices
  have e3 : xs[k] = ((xs.map Prod.fst)[k], .slice pa pn pc, .slice ra rn rk) := by
    rw [List.getElem_map]
    exact Prod.ext rfl (Prod.ext e1 e2)
  exact ⟨ad, pa, pn, pc, ra, rn, rk, e, e3 ▸ h3, e3 ▸ h4⟩
theorem ents_one {w : World} {e : Vw.Entry} {pv lv : Value} (h : EOk w (e, pv, lv)) (T : TypeId) : EntsAt [e] (w.alloc (.cells #[pv, .int .i64 e.k, lv, .int .i64 e.n] T)) (.slice (some ⟨w.heap.size, 0, none⟩) 1 1) := by
  have hb := below_new w (.cells #[pv, .int .i64 e.k, lv, .int .i64 e.n] T)
  refine ⟨[(e, pv, lv)], ⟨⟨some ⟨w.heap.size, 0, none⟩, 1, rfl, Nat.le_refl _, fun q => by simp at q, fun j u hu => ⟨_, rfl, ?_⟩⟩, fun x hx => ?_⟩, rfl⟩
  · rw [List.flatMap_singleton] at hu
    exact new_cells w (ecell (e, pv, lv)) T j u hu
  · rw [List.mem_singleton.1 hx]
    exact h.on hb
/-- Of transactions that may be, all items may be, and are short. -/
theorem all_fine {ts : List Tx.Txn} {sn : D → Bool} (h : ∀ t ∈ ts, okT t = true) : FineI (Lv.all ts sn) := fine_all fun t ht o ho => by
  have h1 := okT_parts (h t ht)
  refine ⟨(tshort_parts h1.1).2 o ho, ?_⟩
  rcases (Tx.check_zero h1.2).2.2.2.2 o ho with h2 | ⟨_, h2⟩
  · exact .inr h2
  · exact .inl h2
theorem its_small {xs : List IE} {its : List Lv.Item} (h : xs.map (·.1) = its) (hf : FineI its) : C.SmallN xs := fun x hx => by
  have hm : x.1 ∈ its := by rw [← h]; exact List.mem_map.2 ⟨x, hx, rfl⟩
  exact fine_amount (hf _ hm).1
section
variable {its : List Lv.Item} {r vp : Value} {p : List (List UInt8)} {k : Int} {w : World}
theorem of_at (h : ItsAt its w r) (hf : FineI its) : Calls Tryz.prog 11 #[r] w fun e w' => ∃ q, e = .returned q ∧ EntsAt (Vw.of its) w' q ∧ Below w.heap.size w w' := by
  obtain ⟨xs, h1, h2, h3, h4⟩ := h
  refine (of18_any r xs its w h1 h2 h4 h3 (its_small h2 hf)).mono ?_
  rintro e w' ⟨q, es, rfl, e2, e3, e4⟩
  exact ⟨q, rfl, ⟨es, e3, e2⟩, e4⟩
theorem at_at (h : ItsAt its w r) (hf : FineI its) (hp : U.strsAt w vp p) (hn : p.length ≤ 1000000) : Calls Tryz.prog 13 #[r, vp, .int .i64 k] w fun e w' =>
    ∃ pa pn pc ra rn rk, e = .returned (entV (.slice pa pn pc) k (.slice ra rn rk) (Vw.at' its p k).n) ∧ EOk w' (Vw.at' its p k, .slice pa pn pc, .slice ra rn rk) ∧ rn = (Vw.at' its p k).l.length ∧ Below w.heap.size w w' := by
  obtain ⟨xs, h1, h2, h3, h4⟩ := h
  refine (at18_any r vp xs its p k w h1 h2 hp h4 hn h3 (its_small h2 hf)).mono ?_
  rintro e w' ⟨pa, pn, pc, ra, rn, rk, rfl, e2, e3, e4⟩
  have hv : valsIn w' (.slice ra rn rk) (Vw.at' its p k).l := e3.rows vcell_len
  obtain ⟨a, b, q⟩ := hv.slice
  obtain ⟨rfl, rfl, rfl⟩ : ra = a ∧ rn = (Vw.at' its p k).l.length ∧ rk = b := by simpa using q
  exact ⟨pa, pn, pc, ra, _, rk, rfl, ⟨U.strsAt_own e2, hv⟩, rfl, e4⟩
end
section
variable {es : List Vw.Entry} {va vb : Value} {w : World}
theorem efine_of {xs : List EE} (h : xs.map Prod.fst = es) (hf : ∀ e ∈ es, EFine e) : ∀ x ∈ xs, EFine x.1 := fun x hx => hf _ (by rw [← h]; exact List.mem_map.2 ⟨x, hx, rfl⟩)
theorem elen_of {xs : List EE} (h : xs.map Prod.fst = es) : xs.length = es.length := by rw [← h, List.length_map]
theorem few_len {e : Vw.Entry} (h : EFine e) : ELen e := ⟨by have := h.few.1; omega, h.len⟩
theorem text_at (hk : N.Keeps w) (h : EntsAt es w va) (hf : ∀ e ∈ es, EFine e) (hn : es.length ≤ 100000) : Calls Tryz.prog 18 #[va] w fun e w' => e = .returned (.string ⟨(linesE es).toArray⟩) ∧ Below w.heap.size w w' := by
  obtain ⟨xs, h1, h2⟩ := h
  have a := text18_any va xs w hk h1 (efine_of h2 hf) (by rw [elen_of h2]; exact hn)
  rw [h2] at a
  exact a
theorem same_at (ha : EntsAt es w va) (hb : EntsAt es w vb) (hf : ∀ e ∈ es, EFine e) (hn : es.length ≤ 100000) : Calls Tryz.prog 20 #[va, vb] w fun e w' => e = .returned (.bool true) ∧ Below w.heap.size w w' := by
  obtain ⟨xs, h1, h2⟩ := ha
  obtain ⟨ys, h3, h4⟩ := hb
  exact same18_any va vb xs ys w h1 h3 (h2.trans h4.symm) (fun x hx => few_len (efine_of h2 hf x hx)) (by rw [elen_of h2]; omega)
end
end Go.Proofs.YthlhopdlkkeohaaGreatDoor.O
/- The chapter's example: a = 1 2. -/
namespace Go.Proofs.YthlhopdlkkeohaaGreatDoor.O
open Go.RowKit

theorem strs_one (w : World) (a : List UInt8) : U.strsAt (w.alloc (.cells #[.string ⟨a.toArray⟩] 9)) (.slice (some ⟨w.heap.size, 0, none⟩) 1 1) [a] := by
  refine ⟨_, 1, rfl, Nat.le_refl _, fun k hk => ⟨_, rfl, ?_⟩⟩
  match k, hk with
  | 0, _ => simp [Addr.add]
  | k + 1, h => simp at h
theorem ops_two (w : World) (a b : Os.Op) (pa sa pb sb : Value) (ha : U.strsAt w pa a.p) (hb : U.strsAt w pb b.p) (la : refsIn w sa a.l) (lb : refsIn w sb b.l) :
    opsIn (w.alloc (.cells #[.int .i64 a.k, pa, .int .i64 a.vk, .int .i64 a.vn, .string ⟨a.vs.toArray⟩, .int .i64 a.n, sa, .int .i64 b.k, pb, .int .i64 b.vk, .int .i64 b.vn, .string ⟨b.vs.toArray⟩, .int .i64 b.n, sb] 65)) (.slice (some ⟨w.heap.size, 0, none⟩) 2 2) [a, b] := by
  have k0 := below_new w (.cells #[.int .i64 a.k, pa, .int .i64 a.vk, .int .i64 a.vn, .string ⟨a.vs.toArray⟩, .int .i64 a.n, sa, .int .i64 b.k, pb, .int .i64 b.vk, .int .i64 b.vn, .string ⟨b.vs.toArray⟩, .int .i64 b.n, sb] 65)
  refine ⟨_, 2, rfl, Nat.le_refl _, fun e => by simp at e, fun k hk => ?_⟩
  match k, hk with
  | 0, _ => exact ⟨_, pa, sa, rfl, ⟨by simp [Addr.add], by simp [Addr.add], by simp [Addr.add], by simp [Addr.add], by simp [Addr.add], by simp [Addr.add], by simp [Addr.add]⟩, U.strsAt_below ha k0 (Nat.le_refl _), la.on k0⟩
  | 1, _ => exact ⟨_, pb, sb, rfl, ⟨by simp [Addr.add], by simp [Addr.add], by simp [Addr.add], by simp [Addr.add], by simp [Addr.add], by simp [Addr.add], by simp [Addr.add]⟩, U.strsAt_below hb k0 (Nat.le_refl _), lb.on k0⟩
  | k + 2, h => exact absurd h (by simp)
theorem txs_one (w : World) (a : Tx.Txn) (ova : Value) (ha : opsIn w ova a.ops) :
    txsIn (w.alloc (.cells #[.int .i64 a.d.1, .int .i64 a.d.2, .int .i64 a.u, .int .i64 a.t, .bool a.thin, ova] 56)) (.slice (some ⟨w.heap.size, 0, none⟩) 1 1) [a] := by
  have k0 := below_new w (.cells #[.int .i64 a.d.1, .int .i64 a.d.2, .int .i64 a.u, .int .i64 a.t, .bool a.thin, ova] 56)
  refine ⟨_, 1, rfl, Nat.le_refl _, fun e => by simp at e, fun k hk => ?_⟩
  match k, hk with
  | 0, _ => exact ⟨_, ova, rfl, ⟨by simp [Addr.add], by simp [Addr.add], by simp [Addr.add], by simp [Addr.add], by simp [Addr.add], by simp [Addr.add]⟩, ha.on k0⟩
  | k + 1, h => exact absurd h (by simp)
abbrev vxO1 : Os.Op := ⟨1, [[97]], 1, 2, [], 0, []⟩
abbrev vxO2 : Os.Op := ⟨1, [[97]], 1, 1, [], 0, []⟩
abbrev vxT : Tx.Txn := ⟨(0, 1), 0, 1, false, [vxO1, vxO2]⟩
abbrev vxIts : List Lv.Item := [⟨((0, 1), 0), vxO1, 1⟩, ⟨((0, 1), 1), vxO2, 1⟩]
theorem vx_all : Lv.all [vxT] (seenD []) = vxIts := by rfl
theorem vx_few : Few13 [vxT] := fun t ht => by
  rw [List.mem_singleton.1 ht]
  exact ⟨by decide, fun o ho => by
    simp only [List.mem_cons, List.not_mem_nil, or_false] at ho
    rcases ho with rfl | rfl <;> exact ⟨by decide, fun x hx => by simp at hx⟩⟩
theorem vx_dots : ∀ t ∈ [vxT], (Lit.int .i64 t.d.1).wf = true ∧ (Lit.int .i64 t.d.2).wf = true := fun t ht => by
  rw [List.mem_singleton.1 ht]
  exact ⟨by decide, by decide⟩
theorem vx_fine : FineI vxIts := fun i hi => by
  simp only [vxIts, List.mem_cons, List.not_mem_nil, or_false] at hi
  rcases hi with rfl | rfl <;> exact ⟨by decide +kernel, by decide +kernel, by decide +kernel⟩
theorem vx_text : linesE (Vw.of vxIts) = [97, 32, 61, 32, 49, 32, 50, 10] := by decide +kernel
theorem vx_its {w : World} {r : Value} {xs : List IE} (h1 : itsE w r xs) (h2 : xs.map (·.1) = vxIts) : ItsAt vxIts w r := by
  refine ⟨xs, h1, h2, fun x hx => ?_, ?_⟩
  · have hm : x.1 ∈ vxIts := by rw [← h2]; exact List.mem_map.2 ⟨x, hx, rfl⟩
    exact (vx_fine _ hm).2.1
  · have h := congrArg List.length h2
    rw [List.length_map] at h
    rw [h]
    decide
theorem vx_len : (Vw.of vxIts).length ≤ 100000 := Nat.le_trans (Vw.of_len _) (by decide)
abbrev vxOps (pv : Value) : Obj := .cells #[.int .i64 1, pv, .int .i64 1, .int .i64 2, .string ⟨#[]⟩, .int .i64 0, .slice none 0 0, .int .i64 1, pv, .int .i64 1, .int .i64 1, .string ⟨#[]⟩, .int .i64 0, .slice none 0 0] 65
abbrev vxTxn (b : Nat) : Obj := .cells #[.int .i64 0, .int .i64 1, .int .i64 0, .int .i64 1, .bool false, .slice (some ⟨b, 0, none⟩) 2 2] 56
theorem vx_calls (w : World) (pv : Value) (hp : U.strsAt w pv [[97]]) : Calls Tryz.prog 9 #[.slice (some ⟨w.heap.size + 1, 0, none⟩) 1 1, .slice none 0 0] ((w.alloc (vxOps pv)).alloc (vxTxn w.heap.size)) fun e w' => ∃ r, e = .returned r ∧ Hid (ItsAt vxIts w' r) ∧ Below w.heap.size w w' := by
  have O2 := ops_two w vxO1 vxO2 pv (.slice none 0 0) pv (.slice none 0 0) hp hp (refsIn_nil _) (refsIn_nil _)
  have T3 := txs_one (w.alloc (vxOps pv)) vxT (.slice (some ⟨w.heap.size, 0, none⟩) 2 2) O2
  rw [World.size_alloc] at T3
  refine (all_any _ (.slice none 0 0) [vxT] [] _ T3 (T.cntsIn_nil _) (by decide) vx_few vx_dots (by simp) Ct.std_nil).mono ?_
  rintro e w' ⟨r, xs, e1, h1, h2, h3⟩
  rw [vx_all] at h2
  exact ⟨r, e1, vx_its h1 h2, bchain (below_new2 _ _ _) h3⟩
theorem vx_told {w : World} {r : Value} (hk : N.Keeps w) (h : EntsAt (Vw.of vxIts) w r) : Calls Tryz.prog 18 #[r] w fun e w' => e = .returned (.string ⟨#[97, 32, 61, 32, 49, 32, 50, 10]⟩) ∧ Below w.heap.size w w' := by
  have a := text_at hk h (fine_of vx_fine (by decide)) vx_len
  rw [vx_text] at a
  exact a

set_option maxRecDepth 20000 in
theorem num_any (n : Int) (w : World) : Calls Tryz.prog 26 #[.int .i64 n] w fun e w' => e = .returned (.agg #[.int .i64 1, .int .i64 n, .string ⟨#[]⟩]) ∧ Below w.heap.size w w' := by
  go_enter Tryz.func26, Tryz.ntmps26
  go_wp2
  refine bodyPost_ret (v := .agg #[.int .i64 1, .int .i64 n, .string ⟨#[]⟩]) (by simp [results, Tryz.results26, go_sem]) rfl ⟨rfl, below_new _ _⟩

set_option maxRecDepth 20000 in
set_option maxHeartbeats 4000000 in
theorem awake_any (w : World) (hk : N.Keeps w) : Calls Tryz.prog 8 #[] w fun e w' => e = .returned (.bool true) ∧ Below w.heap.size w w' := by
  have b0 := below_new w (.cells #[.string ⟨#[97]⟩] 9)
  have p0 := strs_one w [97]
  have HV : Hid (FineI vxIts) := vx_fine
  go_enter Tryz.func8, Tryz.ntmps8
  go_wp2_with (first
    | (go_at_call 26; refine (num_any 2 _).mono ?_; rintro e w1 ⟨rfl, hb1⟩; have p1 := U.strsAt_below p0 hb1 (Nat.le_refl _); have k1 := bchain b0 hb1)
    | (go_at_call 26; refine (num_any 1 _).mono ?_; rintro e w2 ⟨rfl, hb2⟩; have p2 := U.strsAt_below p1 hb2 (Nat.le_refl _); have k2 := bchain k1 hb2)
    | (go_at_call 9; refine (vx_calls w2 _ p2).mono ?_; rintro e w3 ⟨r3, rfl, h3, hb3⟩; have k3 := bchain k2 hb3)
    | (go_at_call 11; refine (of_at h3.out HV.out).mono ?_; rintro e w4 ⟨r4, rfl, h4, hb4⟩; have k4 := bchain k3 hb4)
    | (go_at_call 18; refine (vx_told (hk.on k4) h4).mono ?_; rintro e w5 ⟨rfl, hb5⟩))
  go_ret
  exact ⟨rfl, bchain k4 hb5⟩
end Go.Proofs.YthlhopdlkkeohaaGreatDoor.O
/- Loads of entries; what the program's calls tell of the transactions' items, gathered for the walks. -/
namespace Go.Proofs.YthlhopdlkkeohaaGreatDoor.O
open Go.RowKit
section
variable {o : Oper} {a : Act} {w : World} {x : Operand} {p : Addr}
theorem ex_l_ent {v0 v1 v2 v3 : Value} (ho : o.op = .load 38 x) (hx : a.eval x = .pointer (some p)) (h0 : w.cell? p = some v0) (h1 : w.cell? ⟨p.block, p.off + 1, none⟩ = some v1) (h2 : w.cell? ⟨p.block, p.off + 2, none⟩ = some v2) (h3 : w.cell? ⟨p.block, p.off + 3, none⟩ = some v3) : (execOp a.eval o).run Tryz.prog w = .ok (.value (.agg #[v0, v1, v2, v3])) w := by
  unfold execOp
  simp only [ho, hx, Sem.run_bind]
  go_simp
end
theorem neqs_same (x : ByteArray) (w : World) : (binOp .neq 9 (.string x) (.string x)).run Tryz.prog w = .ok (.bool false) w := by go_simp
theorem neqb_not {a b : Bool} (h : a ≠ b) (w : World) : (binOp .neq 4 (.bool a) (.bool b)).run Tryz.prog w = .ok (.bool true) w := by
  cases a <;> cases b <;> first | exact absurd rfl h | go_simp

/-- What live.All tells of transactions that may be, and of right counts. -/
structure VwT (w : World) (v vu : Value) (its : List Lv.Item) : Prop where
  all : AllC 9 w v vu its
  fine : FineI its
  len : its.length ≤ 100000
theorem vwT {v vu : Value} {ts : List Tx.Txn} {u : List U} {w : World} (hv : txsIn w v ts) (hu : T.cntsIn w vu u) (hg : good13 ts u = true) : VwT w v vu (Lv.all ts (seenD u)) := by
  obtain ⟨⟨h20, hr, hok⟩, h100, hstd⟩ := good13_parts hg
  refine ⟨allC hv hu (by omega) hok (by omega) hstd, all_fine hok, ?_⟩
  have h := Lv.allBy_len (B := 1000) (l := ts) (cov := Lv.covered ts (seenD u)) (sn := seenD u) fun t ht => (okT_few (hok t ht)).1
  unfold Lv.all
  omega
/-- What the calls tell of entries. -/
structure EsC (es : List Vw.Entry) (n : Nat) (TX : ByteArray) : Prop where
  len : es.length = n
  few : n ≤ 100000
  fine : ∀ e ∈ es, EFine e
  c18 : ∀ {va W}, N.Keeps W → EntsAt es W va → Calls Tryz.prog 18 #[va] W fun e w' => e = .returned (.string TX) ∧ Below W.heap.size W w'
  c20 : ∀ {va vb W}, EntsAt es W va → EntsAt es W vb → Calls Tryz.prog 20 #[va, vb] W fun e w' => e = .returned (.bool true) ∧ Below W.heap.size W w'
theorem esC {es : List Vw.Entry} (hf : ∀ e ∈ es, EFine e) (hn : es.length ≤ 100000) : EsC es es.length ⟨(linesE es).toArray⟩ :=
  ⟨rfl, hn, hf, fun hk ha => text_at hk ha hf hn, fun ha hb => same_at ha hb hf hn⟩
/-- What the calls tell of items. -/
structure ItC (w : World) (vp : Value) (its : List Lv.Item) (es : List Vw.Entry) (n : Nat) (p : List (List UInt8)) (z : Int) (l0 : List Rg.Va) (n0 : Int) : Prop where
  c11 : ∀ {r W}, ItsAt its W r → Calls Tryz.prog 11 #[r] W fun e w' => ∃ ea ec, e = .returned (.slice ea n ec) ∧ EntsAt es w' (.slice ea n ec) ∧ Below W.heap.size W w'
  c13 : ∀ {r W}, ItsAt its W r → Below w.heap.size w W → Calls Tryz.prog 13 #[r, vp, .int .i64 z] W fun e w' => ∃ pa pn pc ra rk, e = .returned (entV (.slice pa pn pc) z (.slice ra l0.length rk) n0) ∧ EOk w' (⟨p, z, l0, n0⟩, .slice pa pn pc, .slice ra l0.length rk) ∧ Below W.heap.size W w'
theorem itC11 {its : List Lv.Item} {r : Value} {W : World} (hf : FineI its) (h : ItsAt its W r) : Calls Tryz.prog 11 #[r] W fun e w' => ∃ ea ec, e = .returned (.slice ea (Vw.of its).length ec) ∧ EntsAt (Vw.of its) w' (.slice ea (Vw.of its).length ec) ∧ Below W.heap.size W w' :=
  (of_at h hf).mono fun e w' ⟨q, e1, e2, e3⟩ => by
    obtain ⟨ea, ec, rfl⟩ := e2.slice
    exact ⟨ea, ec, e1, e2, e3⟩
theorem itC {w : World} {vp : Value} {its : List Lv.Item} {p : List (List UInt8)} (hf : FineI its) (hp : U.strsAt w vp p) (hn : p.length ≤ 1000000) (z : Int) : ItC w vp its (Vw.of its) (Vw.of its).length p z (Vw.at' its p z).l (Vw.at' its p z).n where
  c11 h := itC11 hf h
  c13 h hb := (at_at h hf (U.strsAt_below hp hb (Nat.le_refl _)) hn).mono fun e w' ⟨pa, pn, pc, ra, rn, rk, e1, e2, e3, e4⟩ => by
    subst e3
    exact ⟨pa, pn, pc, ra, rk, e1, e2, e4⟩
theorem few_short {p : List (List UInt8)} (h : Pt.short p = true) : U.Few p := Pt.short_iff h
theorem of_few {its : List Lv.Item} (h : its.length ≤ 100000) : (Vw.of its).length ≤ 100000 := Nat.le_trans (Vw.of_len _) h
end Go.Proofs.YthlhopdlkkeohaaGreatDoor.O
/- One thing of a row that a call owns is written: the row owns what it then holds; how a loop that lays a thing in its place by shifting stands. -/
namespace Go.Proofs.YthlhopdlkkeohaaGreatDoor.O
open Go.RowKit

theorem heap_cell_same (w : World) (b o : Nat) (C : Array Value) (T : TypeId) (v : Value) (h : w.heap[b]? = some (.cells C T (0, 0))) : (w.setCell ⟨b, o, none⟩ v).heap[b]? = some (.cells (C.setIfInBounds o v) T (0, 0)) := by
  obtain ⟨hb, h'⟩ := Array.getElem?_eq_some_iff.1 h
  simp [World.setCell, Array.getElem?_modify, h]
theorem heap_cells_same (b : Nat) (T : TypeId) : ∀ (vs : List Value) (o : Nat) (w : World) (C : Array Value), w.heap[b]? = some (.cells C T (0, 0)) → (w.setCells b o vs).heap[b]? = some (.cells (Go.Sort.setMany C o vs) T (0, 0))
  | [], _, _, _, h => h
  | v :: r, o, w, C, h => by
    rw [World.setCells, Go.Sort.setMany]
    exact heap_cells_same b T r (o + 1) _ _ (heap_cell_same w b o C T v h)
section
variable {α : Type} {f : α → List Value} {m : Nat}
theorem own_setRow (hf : ∀ x, (f x).length = m) (hm : 0 < m) {w : World} {B g n cap : Nat} {T : TypeId} {xs : List α} (h : w.ownsRow B T m (.slice (some ⟨g, 0, none⟩) n cap) xs.length (xs.flatMap f)) {i : Nat} (hi : i < xs.length) (x : α) :
    (w.setCells g (i * m) (f x)).ownsRow B T m (.slice (some ⟨g, 0, none⟩) n cap) (xs.set i x).length ((xs.set i x).flatMap f) := by
  have hl2 : (xs.set i x).length = xs.length := by simp
  refine ⟨flat_length hf _, ?_⟩
  rcases h.2 with ⟨e, _⟩ | ⟨g', cap', cur, e, hbg, hg, r1, r2, r3, r4⟩
  · cases e
  · cases e
    refine .inr ⟨g, cap, Go.Sort.setMany cur (i * m) (f x), by rw [hl2], hbg, heap_cells_same g T (f x) (i * m) w cur hg, by rw [hl2]; exact r1, r2, by rw [Go.Sort.size_setMany]; exact r3, ?_⟩
    rw [hl2]
    have hin : i * m + m ≤ xs.length * m := by
      have := Nat.mul_le_mul_right m hi
      rw [Nat.succ_mul] at this
      exact this
    have hcs : xs.length * m ≤ cur.size := by rw [r3]; exact Nat.mul_le_mul_right m r1
    apply List.ext_getElem?
    intro t
    by_cases ht : t < xs.length * m
    · have htc : t < cur.size := by omega
      rw [List.getElem?_take_of_lt ht, Array.getElem?_toList]
      have e1 : (Go.Sort.setMany cur (i * m) (f x))[t]? = some (Go.Sort.setMany cur (i * m) (f x))[t]! := by
        rw [getElem!_pos _ t (by rw [Go.Sort.size_setMany]; exact htc), Array.getElem?_eq_getElem (by rw [Go.Sort.size_setMany]; exact htc)]
      rw [e1, Go.Sort.get_setMany _ _ _ t htc, hf]
      have hd := Nat.div_add_mod t m
      have hk : t / m < xs.length := (Nat.div_lt_iff_lt_mul hm).2 ht
      have hr : t % m < m := Nat.mod_lt _ hm
      have ht2 : t = t / m * m + t % m := by rw [Nat.mul_comm]; exact hd.symm
      have hfl := flat_at hf (xs.set i x) (t / m) (by rw [hl2]; exact hk) (t % m) hr
      rw [← ht2] at hfl
      rw [hfl]
      by_cases hti : t / m = i
      · have hti' : i * m ≤ t ∧ t < i * m + m := (Go.Sort.blk_iff m i t hm).2 hti
        rw [if_pos hti']
        have e2 : t - i * m = t % m := by rw [← hti]; omega
        rw [e2]
        have hl3 : t % m < (f x).length := by rw [hf]; exact hr
        rw [getElem!_pos (f x) (t % m) hl3]
        subst hti
        rw [List.getElem_set_self, List.getElem?_eq_getElem hl3]
      · rw [if_neg fun q => hti ((Go.Sort.blk_iff m i t hm).1 q), List.getElem_set_ne (Ne.symm hti)]
        have hfx := flat_at hf xs (t / m) hk (t % m) hr
        rw [← ht2, ← r4, List.getElem?_take_of_lt ht, Array.getElem?_toList] at hfx
        rw [← hfx, getElem!_pos _ t htc, Array.getElem?_eq_getElem htc]
    · rw [List.getElem?_eq_none (by rw [List.length_take]; omega), List.getElem?_eq_none (by rw [flat_length hf, hl2]; omega)]
/-- How a row stands that was written. -/
theorem own_cells {w : World} {B g n cap : Nat} {T : TypeId} {xs : List α} (hf : ∀ x, (f x).length = m) (h : w.ownsRow B T m (.slice (some ⟨g, 0, none⟩) n cap) xs.length (xs.flatMap f)) : OwnR w g f m xs ∧ xs.length ≤ cap ∧ cap ≤ maxLen ∧ B ≤ g ∧ n = xs.length := OwnR.of hf h
end
end Go.Proofs.YthlhopdlkkeohaaGreatDoor.O
/- The walk of the document's Keys. -/
namespace Go.Proofs.YthlhopdlkkeohaaGreatDoor.O
open Go.RowKit

theorem own_some {w : World} {B s n : Nat} {e : TypeId} {v : Value} {xs : List Value} (h : w.ownsRow B e s v n xs) (hn : 0 < n) : ∃ g cap, v = .slice (some ⟨g, 0, none⟩) n cap := by
  rcases h.2 with ⟨_, h0⟩ | ⟨g, cap, cur, e, _⟩
  · omega
  · exact ⟨g, cap, e⟩
theorem vals_snoc {α : Type} (comp : α → α → Int) (l : List α) (s : α) : Li.vals comp (l ++ [s]) = Li.ins comp s (Li.vals comp l) := by
  unfold Li.vals
  rw [List.foldl_append]
  rfl
theorem lay_there {α : Type} {comp : α → α → Int} (o : Li.Ord comp) {l acc : List α} {s : α} {t : Nat} (h : acc = Li.vals comp l) (ht : t < acc.length) (hz : comp acc[t] s = 0) : acc = Li.vals comp (l ++ [s]) := by
  rw [vals_snoc, ← h, Li.ahead_there o (by rw [h]; exact Li.vals_rise o l) ht hz]
theorem next_mem {p : List (List UInt8)} {i : Lv.Item} {s : List UInt8} (h : Tr.next p i = some s) : s ∈ i.o.p := by
  unfold Tr.next at h
  split at h
  · exact List.mem_of_getElem? h
  · cases h

end Go.Proofs.YthlhopdlkkeohaaGreatDoor.O
