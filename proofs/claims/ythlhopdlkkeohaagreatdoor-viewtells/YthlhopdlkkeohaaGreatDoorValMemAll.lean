/- Values in memory: a slice of them, one at a place, one appended to a row that the call owns · Entries of views in memory: a slice of them, one at a place · The walks of the document's At, Under and Refs, of live's Refs, of the statement's has and the document's SameRefs · Neighbours that are the same as one, as a walk from the left has them. -/
import Derived.Test.YthlhopdlkkeohaaGreatDoorRwsAll
import Derived.Test.YthlhopdlkkeohaaGreatDoorRegsAll
import Derived.Test.YthlhopdlkkeohaaGreatDoorValAll
import Derived.Test.YthlhopdlkkeohaaGreatDoorAtP2All
import Derived.Test.YthlhopdlkkeohaaGreatDoorTxnOwnAll
/- Values in memory: a slice of them, one at a place, one appended to a row that the call owns. -/
namespace Go.Proofs.YthlhopdlkkeohaaGreatDoor.O
open Go.RowKit

/-- A value's cells. -/
def vcell (x : Rg.Va) : List Value := [.int .i64 x.1, .int .i64 x.2.1, .string ⟨x.2.2.toArray⟩]
theorem vcell_len (x : Rg.Va) : (vcell x).length = 3 := rfl
abbrev vV (x : Rg.Va) : Value := valV x.1 x.2.1 x.2.2
abbrev vO (x : Rg.Va) : Obj := valO x.1 x.2.1 x.2.2
theorem vcell_one (x : Rg.Va) : ∀ u ∈ vcell x, u.oneCell' = true := by
  intro u hu
  simp only [vcell, List.mem_cons, List.not_mem_nil, or_false] at hu
  rcases hu with rfl | rfl | rfl <;> rfl
theorem vals_one (l : List Rg.Va) : ∀ u ∈ l.flatMap vcell, u.oneCell' = true := by
  intro u hu
  obtain ⟨x, _, hu⟩ := List.mem_flatMap.1 hu
  exact vcell_one x u hu
/-- A slice reads as these values. -/
def valsIn (w : World) (v : Value) (xs : List Rg.Va) : Prop := rowsIn w vcell v xs
theorem valsIn.on {w w' : World} {v : Value} {xs : List Rg.Va} (h : valsIn w v xs) (hb : Below w.heap.size w w') : valsIn w' v xs := rowsIn.on h hb
theorem valsIn.slice {w : World} {v : Value} {xs : List Rg.Va} (h : valsIn w v xs) : ∃ ao cap, v = .slice ao xs.length cap := by
  obtain ⟨ao, cap, e, _⟩ := h
  exact ⟨ao, cap, e⟩
theorem valsIn_nil (w : World) : valsIn w (.slice none 0 0) [] := ⟨none, 0, rfl, Nat.le_refl _, fun _ => rfl, fun j u hu => by simp at hu⟩
/-- At this place there is this value. -/
structure VcAt (w : World) (p : Addr) (x : Rg.Va) : Prop where
  c0 : w.cell? p = some (.int .i64 x.1)
  c1 : w.cell? ⟨p.block, p.off + 1, none⟩ = some (.int .i64 x.2.1)
  c2 : w.cell? ⟨p.block, p.off + 2, none⟩ = some (.string ⟨x.2.2.toArray⟩)
theorem VcAt.of {w : World} {p : Addr} {x : Rg.Va} (h : ∀ j u, (vcell x)[j]? = some u → w.cell? (p.add j) = some u) : VcAt w p x := by
  have e : ∀ i, 0 < i → p.add i = ⟨p.block, p.off + i, none⟩ := fun i hi => by unfold Addr.add; rw [if_neg (by omega)]
  have e0 : p.add 0 = p := by unfold Addr.add; simp
  refine ⟨by rw [← e0]; exact h 0 _ rfl, ?_, ?_⟩
  · rw [← e 1 (by omega)]; exact h 1 _ rfl
  · rw [← e 2 (by omega)]; exact h 2 _ rfl
theorem VcAt.on {w w' : World} {p : Addr} {x : Rg.Va} (h : VcAt w p x) (hb : Below w.heap.size w w') : VcAt w' p x := ⟨keep_cell hb h.c0, keep_cell hb h.c1, keep_cell hb h.c2⟩
theorem valsIn.get {w : World} {ao : Option Addr} {n cap : Nat} {xs : List Rg.Va} (h : valsIn w (.slice ao n cap) xs) {k : Nat} (hk : k < xs.length) : ∃ ad, ao = some ad ∧ VcAt w (ad.add (k * 3)) xs[k] := by
  obtain ⟨ad, e, h1⟩ := rowsIn.get h vcell_len (by omega) hk
  exact ⟨ad, e, VcAt.of h1⟩
theorem vsize33 {cs : List Value} (h : cs.length = 3) : (Tryz.prog.info? 61).map (·.size) = some cs.length := by rw [h]; kernel_rfl
theorem vinfo33 : ∃ i0, Tryz.prog.info? 61 = some i0 ∧ i0.zero = some (.agg #[.int .i64 0, .int .i64 0, .string ⟨#[]⟩]) ∧ i0.size = 3 ∧ i0.bytes = 32 := info_parts (by kernel_rfl)
/-- A row of values that reads so. -/
theorem valsIn_own {w : World} {B : Nat} {v : Value} {xs : List Rg.Va} (h : w.ownsRow B 61 3 v xs.length (xs.flatMap vcell)) : valsIn w v xs := by
  rcases id h.2 with ⟨rfl, h0⟩ | ⟨g, cap, cur, rfl, r⟩
  · obtain rfl : xs = [] := List.eq_nil_of_length_eq_zero h0
    exact valsIn_nil w
  · exact ⟨_, cap, rfl, r.2.2.1, fun e => by simp at e, fun j u hu => ⟨_, rfl, h.cells rfl j u hu⟩⟩
theorem new_val (w : World) (x : Rg.Va) : ∀ j v, ([x].flatMap vcell)[j]? = some v → (w.alloc (vO x)).cell? ((⟨w.heap.size, 0, none⟩ : Addr).add j) = some v := fun j v hv => by
  rw [zero_add9, cell_of_row _ w.heap.size j _ 61 (0, 0) (heap_alloc_new w _)]
  simpa [vcell] using hv
/-- One value is appended to a row that the call owns. -/
theorem append_val {ops : Array Oper} {rest : List Oper} {o : Oper} {a : Act} {w : World} {Q : Exit → Act → World → Prop} (hgd : o.guard = none) (s x : Operand)
    (ho : o.op = .call { callee := .builtin .append, args := #[s, x], argTypes := #[36, 36] }) (B : Nat) (hB : B ≤ w.heap.size) (r : Value) (acc : List Rg.Va) (hs : a.eval s = r) (hown : w.ownsRow B 61 3 r acc.length (acc.flatMap vcell))
    (g : Nat) (y : Rg.Va) (hx : a.eval x = .slice (some ⟨g, 0, none⟩) 1 1) (hv : ∀ j v, ([y].flatMap vcell)[j]? = some v → w.cell? ((⟨g, 0, none⟩ : Addr).add j) = some v) (hn : acc.length + 1 ≤ 1000001)
    (h : ∀ r' w', w'.ownsRow B 61 3 r' (acc ++ [y]).length ((acc ++ [y]).flatMap vcell) → w.grownBy w' r.ownBlock → wpList Tryz.prog ops Q rest (a.put o.dst r') w') : wpList Tryz.prog ops Q (o :: rest) a w := by
  obtain ⟨i0, hi, hz, hz1, hz2⟩ := vinfo33
  refine wpList_append_own w hgd s x 36 ho B 61 i0 _ 3 32 Tryz.underlying36 hi hz hz1 hz2 rfl (by decide) r _ _ hs hown ⟨g, 0, none⟩ 1 1 ([y].flatMap vcell) hx (flat_length vcell_len [y]) hv (vals_one [y]) (by unfold maxLen; omega) (by omega) hB ?_
  intro v' w1 hown' hg _
  refine h v' w1 ?_ hg
  rw [List.flatMap_append, List.length_append]
  exact hown'
/-- A row that was built is one of one's own, or there is none. -/
theorem valsOwn {w : World} {B : Nat} {v : Value} {xs : List Rg.Va} (h : w.ownsRow B 61 3 v xs.length (xs.flatMap vcell)) : (v = .slice none 0 0 ∧ xs = []) ∨ ∃ g cap, v = .slice (some ⟨g, 0, none⟩) xs.length cap ∧ OwnR w g vcell 3 xs ∧ xs.length ≤ cap ∧ cap ≤ maxLen ∧ B ≤ g := by
  rcases id h.2 with ⟨e, h0⟩ | ⟨g, cap, cur, e, r⟩
  · exact .inl ⟨e, List.eq_nil_of_length_eq_zero h0⟩
  · subst e
    obtain ⟨a, b, c, d, _⟩ := OwnR.of vcell_len h
    exact .inr ⟨g, cap, rfl, a, b, c, d⟩
end Go.Proofs.YthlhopdlkkeohaaGreatDoor.O
/- Entries of views in memory: a slice of them, one at a place. -/
namespace Go.Proofs.YthlhopdlkkeohaaGreatDoor.O
open Go.RowKit

/-- An entry, its path's slice and its values' slice written out. -/
abbrev EE := Vw.Entry × Value × Value
def ecell (x : EE) : List Value := [x.2.1, .int .i64 x.1.k, x.2.2, .int .i64 x.1.n]
theorem ecell_len (x : EE) : (ecell x).length = 4 := rfl
abbrev entV (pv : Value) (k : Int) (lv : Value) (n : Int) : Value := .agg #[pv, .int .i64 k, lv, .int .i64 n]
/-- Its path and its values stand there. -/
def EOk (w : World) (x : EE) : Prop := U.strsAt w x.2.1 x.1.p ∧ valsIn w x.2.2 x.1.l
theorem EOk.on {w w' : World} {x : EE} (h : EOk w x) (hb : Below w.heap.size w w') : EOk w' x := ⟨U.strsAt_below h.1 hb (Nat.le_refl _), h.2.on hb⟩
theorem EOk.slices {w : World} {x : EE} (h : EOk w x) : (∃ ao n c, x.2.1 = .slice ao n c) ∧ ∃ ao n c, x.2.2 = .slice ao n c := by
  obtain ⟨a, b, e⟩ := h.2.slice
  exact ⟨strs_slice h.1, a, _, b, e⟩
theorem ecell_one {x : EE} (h1 : ∃ ao n c, x.2.1 = .slice ao n c) (h2 : ∃ ao n c, x.2.2 = .slice ao n c) : ∀ u ∈ ecell x, u.oneCell' = true := by
  obtain ⟨ao, n, c, e⟩ := h1
  obtain ⟨ao', n', c', e'⟩ := h2
  intro u hu
  simp only [ecell, List.mem_cons, List.not_mem_nil, or_false] at hu
  rcases hu with rfl | rfl | rfl | rfl
  · rw [e]; rfl
  · rfl
  · rw [e']; rfl
  · rfl
/-- A slice reads as these entries. -/
def entsE (w : World) (v : Value) (xs : List EE) : Prop := rowsIn w ecell v xs ∧ ∀ x ∈ xs, EOk w x
theorem entsE.on {w w' : World} {v : Value} {xs : List EE} (h : entsE w v xs) (hb : Below w.heap.size w w') : entsE w' v xs := ⟨h.1.on hb, fun x hx => (h.2 x hx).on hb⟩
theorem entsE.slice {w : World} {v : Value} {xs : List EE} (h : entsE w v xs) : ∃ ao cap, v = .slice ao xs.length cap := by
  obtain ⟨⟨ao, cap, e, _⟩, _⟩ := h
  exact ⟨ao, cap, e⟩
/-- At this place there is this entry. -/
structure EcAt (w : World) (p : Addr) (x : EE) : Prop where
  c0 : w.cell? p = some x.2.1
  c1 : w.cell? ⟨p.block, p.off + 1, none⟩ = some (.int .i64 x.1.k)
  c2 : w.cell? ⟨p.block, p.off + 2, none⟩ = some x.2.2
  c3 : w.cell? ⟨p.block, p.off + 3, none⟩ = some (.int .i64 x.1.n)
theorem EcAt.of {w : World} {p : Addr} {x : EE} (h : ∀ j u, (ecell x)[j]? = some u → w.cell? (p.add j) = some u) : EcAt w p x := by
  have e : ∀ i, 0 < i → p.add i = ⟨p.block, p.off + i, none⟩ := fun i hi => by unfold Addr.add; rw [if_neg (by omega)]
  have e0 : p.add 0 = p := by unfold Addr.add; simp
  refine ⟨by rw [← e0]; exact h 0 _ rfl, ?_, ?_, ?_⟩
  · rw [← e 1 (by omega)]; exact h 1 _ rfl
  · rw [← e 2 (by omega)]; exact h 2 _ rfl
  · rw [← e 3 (by omega)]; exact h 3 _ rfl
theorem EcAt.on {w w' : World} {p : Addr} {x : EE} (h : EcAt w p x) (hb : Below w.heap.size w w') : EcAt w' p x := ⟨keep_cell hb h.c0, keep_cell hb h.c1, keep_cell hb h.c2, keep_cell hb h.c3⟩
theorem EcAt.new (w : World) (x : EE) (T : TypeId) : EcAt (w.alloc (.cells (ecell x).toArray T)) ⟨w.heap.size, 0, none⟩ x := EcAt.of (new_cells w (ecell x) T)
theorem entsE.get {w : World} {ao : Option Addr} {n cap : Nat} {xs : List EE} (h : entsE w (.slice ao n cap) xs) {k : Nat} (hk : k < xs.length) :
    ∃ ad, ao = some ad ∧ (∀ j u, (ecell xs[k])[j]? = some u → w.cell? ((ad.add (k * 4)).add j) = some u) ∧ EcAt w (ad.add (k * 4)) xs[k] ∧ EOk w xs[k] := by
  obtain ⟨ad, e, h1⟩ := h.1.get ecell_len (by omega) hk
  exact ⟨ad, e, h1, EcAt.of h1, h.2 _ (List.getElem_mem hk)⟩
theorem esize38 {cs : List Value} (h : cs.length = 4) : (Tryz.prog.info? 38).map (·.size) = some cs.length := by rw [h]; kernel_rfl
theorem esize42 {cs : List Value} (h : cs.length = 4) : (Tryz.prog.info? 42).map (·.size) = some cs.length := by rw [h]; kernel_rfl
theorem einfo38 : ∃ i0, Tryz.prog.info? 38 = some i0 ∧ i0.zero = some (.agg #[.slice none 0 0, .int .i64 0, .slice none 0 0, .int .i64 0]) ∧ i0.size = 4 ∧ i0.bytes = 64 := info_parts (by kernel_rfl)
theorem einfo42 : ∃ i0, Tryz.prog.info? 42 = some i0 ∧ i0.zero = some (.agg #[.slice none 0 0, .int .i64 0, .slice none 0 0, .int .i64 0]) ∧ i0.size = 4 ∧ i0.bytes = 64 := info_parts (by kernel_rfl)
theorem entsE_row {w : World} {B : Nat} {v : Value} {xs : List EE} (h : rowR ecell 4 w B v xs) (ho : ∀ x ∈ xs, EOk w x) : entsE w v xs := ⟨h.rows ecell_len, ho⟩
end Go.Proofs.YthlhopdlkkeohaaGreatDoor.O
/- The walks of the document's At, Under and Refs, of live's Refs, of the statement's has and the document's SameRefs. -/
namespace Go.Proofs.YthlhopdlkkeohaaGreatDoor.O
open Go.RowKit

theorem refLeaf_any (k : Int) (w : World) : Calls Tryz.prog 78 #[.int .i64 k] w fun e w' => e = .returned (.int .i64 (Os.leaf k)) ∧ w' = w := by
  rcases kinds k with rfl | rfl | rfl | rfl | rfl | ⟨e1, e2, e3, e4, e5, h1, h2, h3, h4, h5⟩
  rotate_right
  · rw [leaf_else h1 h2 h3 h4]
    clear h1 h2 h3 h4 h5
    go_enter Tryz.func78, Tryz.ntmps78
    go_wp2
    go_ret
    exact ⟨rfl, rfl⟩
  all_goals
    go_enter Tryz.func78, Tryz.ntmps78
    go_wp2
    go_ret
    exact ⟨rfl, rfl⟩
theorem filter_yes {P : IE → Bool} {xs : List IE} {k : Nat} (hk : k < xs.length) (h : P xs[k] = true) : (xs.take (k + 1)).filter P = (xs.take k).filter P ++ [xs[k]] := by
  rw [List.take_succ_eq_append_getElem hk, List.filter_append]
  simp [h]
theorem filter_no {P : IE → Bool} {xs : List IE} {k : Nat} (hk : k < xs.length) (h : P xs[k] = false) : (xs.take (k + 1)).filter P = (xs.take k).filter P := by
  rw [List.take_succ_eq_append_getElem hk, List.filter_append]
  simp [h]
theorem filter_len (P : IE → Bool) (xs : List IE) (k : Nat) : ((xs.take k).filter P).length ≤ k := Nat.le_trans (List.length_filter_le _ _) (by rw [List.length_take]; omega)

set_option maxRecDepth 20000 in
set_option maxHeartbeats 2000000 in
theorem refAt_any (v vp : Value) (xs : List IE) (p : List (List UInt8)) (leaf : Int) (w : World) (hv : itsE w v xs) (hp : U.strsAt w vp p) (hn : xs.length ≤ 1000000) (hpn : p.length ≤ 2000000) (hs : ShortI xs) :
    Calls Tryz.prog 94 #[v, vp, .int .i64 leaf] w fun e w' => ∃ r, e = .returned r ∧ itsE w' r (xs.filter fun x => isAt p leaf x.1) ∧ Below w.heap.size w w' := by
  obtain ⟨ao, cap, rfl⟩ := hv.slice
  obtain ⟨qa, qn, qc, rfl⟩ := strs_slice hp
  obtain ⟨i0, hi0, hz0, hz1, hz2⟩ := iinfo81
  obtain ⟨n, hn0⟩ : ∃ n, n = xs.length := ⟨_, rfl⟩
  have HN : Hid (n = xs.length) := hn0
  rw [← hn0] at hv hn ⊢
  have HV : Hid (itsE w (.slice ao n cap) xs) := hv
  have HS : Hid (ShortI xs) := hs
  have HP : Hid (U.strsAt w (.slice qa qn qc) p) := hp
  obtain ⟨P, hP⟩ : ∃ P : IE → Bool, P = fun x => isAt p leaf x.1 := ⟨_, rfl⟩
  rw [← hP]
  have HPe : Hid (∀ x, P x = isAt p leaf x.1) := fun x => by rw [hP]
  clear hn0 hv hs hp hP
  go_enter Tryz.func94, Tryz.ntmps94
  go_wp2
  go_loopw [7, 8] (fun out i wr => ∃ (k : Nat) (acc : List IE), k ≤ n ∧ i = .int .i64 k ∧ Hid (acc = (xs.take k).filter P) ∧ wr.ownsRow w.heap.size 78 11 out acc.length (acc.flatMap icell) ∧ Below w.heap.size w wr) (fun _ i _ => n - (intOf i).toNat)
  case atStart => exact ⟨0, [], by omega, rfl, rfl, World.ownsRow_nil _ _ _ _, Below.refl _ _⟩
  case round =>
    obtain ⟨k, acc, hk, rfl, HA, hown, hbw⟩ := hrel
    by_cases hkn : k < n
    · have hkx : k < xs.length := by rw [← HN.out]; exact hkn
      obtain ⟨ad, rfl, -, hX, hXi⟩ := (HV.out.on hbw).get hkx
      have hsh := HS.out _ (List.getElem_mem hkx)
      have HYes : Hid (P xs[k] = true → acc ++ [xs[k]] = (xs.take (k + 1)).filter P) := by
        have h : P xs[k] = true → acc ++ [xs[k]] = (xs.take (k + 1)).filter P := fun h => by rw [filter_yes hkx h, HA.out]
        exact h
      have HNo : Hid (P xs[k] = false → acc = (xs.take (k + 1)).filter P) := by
        have h : P xs[k] = false → acc = (xs.take (k + 1)).filter P := fun h => by rw [filter_no hkx h]; exact HA.out
        exact h
      have hroom : acc.length + 1 ≤ 1000001 := by
        have := filter_len P xs k
        have h2 := congrArg List.length HA.out
        omega
      generalize xs[k] = x at *
      obtain ⟨it, pv, sv⟩ := x
      obtain ⟨pa, pn, pc, rfl⟩ := strs_slice hXi.1
      obtain ⟨sa, sn, sc, rfl⟩ := refs_slice hXi.2
      have hsh : Os.short it.o = true := hsh
      have hlen : it.o.p.length ≤ 2000000 := by have := (short_parts hsh).1.1; omega
      have hz : ∀ x ∈ it.o.p, x.length ≤ 2000000 := fun x hx => by have := (short_parts hsh).1.2 x hx; omega
      have HL := fun W => refLeaf_any it.o.k W
      have HC := fun W (hb : Below wr.heap.size wr W) => U.refCompare_any (.slice pa pn pc) (.slice qa qn qc) it.o.p p W hlen hpn hz (hXi.on hb).1 (U.strsAt_below HP.out (bchain hbw hb) (Nat.le_refl _))
      have hone := icell_one hXi
      have hi9 : (0 : Int) ≤ (k : Int) := by omega
      have hi8 : (k : Int) < (n : Int) := by omega
      have hPx := HPe.out ((it, .slice pa pn pc, .slice sa sn sc) : IE)
      obtain ⟨c0, c1, c2, c3, c4, c5, c6, c7, c8, c9, c10⟩ := hX
      clear HA hsh hlen hz hXi
      by_cases hlf : Os.leaf it.o.k = leaf
      · have hlb : (Os.leaf it.o.k == leaf) = true := by rw [hlf]; simp
        by_cases hc : it.o.p = p
        · have hcz : Pt.comp it.o.p p = 0 := by rw [hc]; exact Pt.comp_self p
          rw [hcz] at HC
          have HE : Hid (acc ++ [((it, .slice pa pn pc, .slice sa sn sc) : IE)] = (xs.take (k + 1)).filter P) := HYes.out (by rw [hPx]; exact decide_eq_true ⟨hlf, hc⟩)
          clear HYes HNo hPx
          go_wp2_with (first
            | (go_at_call 78; refine (HL _).mono ?_; rintro e w9 ⟨rfl, hw9⟩; have hw9 := hw9.symm; subst hw9)
            | (go_at_call 22; refine (HC _ (Below.refl _ _)).mono ?_; rintro e w1 ⟨rfl, hb1⟩; obtain ⟨c0, c1, c2, c3, c4, c5, c6, c7, c8, c9, c10⟩ := (IcAt.mk c0 c1 c2 c3 c4 c5 c6 c7 c8 c9 c10 : IcAt wr (ad.add (k * 11)) ((it, .slice pa pn pc, .slice sa sn sc) : IE)).on hb1)
            | (at_builtin; refine append_item (ST := 30) (T := 78) rfl Tryz.underlying30 hi0 hz0 hz1 hz2 rfl _ _ rfl w.heap.size (bchain hbw (bchain hb1 (below_new _ (.cells (icell ((it, .slice pa pn pc, .slice sa sn sc) : IE)).toArray 78)))).size _ acc rfl (own_on hown (bchain hb1 (below_new _ (.cells (icell ((it, .slice pa pn pc, .slice sa sn sc) : IE)).toArray 78)))) _ ((it, .slice pa pn pc, .slice sa sn sc) : IE) rfl (new_item w1 ((it, .slice pa pn pc, .slice sa sn sc) : IE) 78) hone hroom ?_; intro v2 w3 hown2 hg2)
            | go_in)
          go_roundw
          case rel => exact ⟨k + 1, acc ++ [((it, .slice pa pn pc, .slice sa sn sc) : IE)], by omega, by go_num, HE, hown2, (bchain hbw (bchain hb1 (below_new _ (.cells (icell ((it, .slice pa pn pc, .slice sa sn sc) : IE)).toArray 78)))).grown hg2 (bchain hbw (bchain hb1 (below_new _ (.cells (icell ((it, .slice pa pn pc, .slice sa sn sc) : IE)).toArray 78)))).size (fun g e => (hown.lt g e).1)⟩
          case measure => simp [intOf]; omega
        · have hcz : (Pt.comp it.o.p p == 0) = false := beq_eq_false_iff_ne.2 fun q => hc (Pt.comp_zero q)
          generalize Pt.comp it.o.p p = z at *
          have HE : Hid (acc = (xs.take (k + 1)).filter P) := HNo.out (by rw [hPx]; exact decide_eq_false fun q => hc q.2)
          clear HYes HNo hPx
          go_wp2_with (first
            | (go_at_call 78; refine (HL _).mono ?_; rintro e w9 ⟨rfl, hw9⟩; have hw9 := hw9.symm; subst hw9)
            | (go_at_call 22; refine (HC _ (Below.refl _ _)).mono ?_; rintro e w1 ⟨rfl, hb1⟩; obtain ⟨c0, c1, c2, c3, c4, c5, c6, c7, c8, c9, c10⟩ := (IcAt.mk c0 c1 c2 c3 c4 c5 c6 c7 c8 c9 c10 : IcAt wr (ad.add (k * 11)) ((it, .slice pa pn pc, .slice sa sn sc) : IE)).on hb1)
            | go_in)
          go_roundw
          case rel => exact ⟨k + 1, acc, by omega, by go_num, HE, own_on hown (hb1), bchain hbw (hb1)⟩
          case measure => simp [intOf]; omega
      · have hlb : (Os.leaf it.o.k == leaf) = false := beq_eq_false_iff_ne.2 hlf
        have HE : Hid (acc = (xs.take (k + 1)).filter P) := HNo.out (by rw [hPx]; exact decide_eq_false fun q => hlf q.1)
        clear HYes HNo hPx
        go_wp2_with (first
          | (go_at_call 78; refine (HL _).mono ?_; rintro e w9 ⟨rfl, hw9⟩; have hw9 := hw9.symm; subst hw9)
          | go_in)
        go_roundw
        case rel => exact ⟨k + 1, acc, by omega, by go_num, HE, own_on hown (Below.refl _ _), bchain hbw (Below.refl _ _)⟩
        case measure => simp [intOf]; omega
    · have HE : Hid (acc = xs.filter P) := by
        have h := HA.out
        rw [List.take_of_length_le (by rw [← HN.out]; omega)] at h
        exact h
      go_wp2
      go_ret
      refine ⟨_, rfl, ?_, hbw⟩
      rw [← HE.out]
      refine itsE_own hown fun x hx => ?_
      rw [HE.out] at hx
      exact (HV.out.2 x (List.mem_filter.1 hx).1).on hbw
end Go.Proofs.YthlhopdlkkeohaaGreatDoor.O
/- Neighbours that are the same as one, as a walk from the left has them. -/
namespace Go.Proofs.YthlhopdlkkeohaaGreatDoor
namespace Rg

theorem thin_snoc (x : Va) : ∀ l : List Va, thin (l ++ [x]) = if l.getLast? = some x then thin l else thin l ++ [x]
  | [] => by simp [thin]
  | [a] => by
    by_cases h : a = x
    · subst h; simp [thin]
    · simp [thin, h]
  | a :: b :: r => by
    have ih := thin_snoc x (b :: r)
    have e1 : thin (a :: b :: r ++ [x]) = if a = b then thin (b :: r ++ [x]) else a :: thin (b :: r ++ [x]) := by
      rw [List.cons_append, List.cons_append, thin]
    have e2 : thin (a :: b :: r) = if a = b then thin (b :: r) else a :: thin (b :: r) := by rw [thin]
    rw [e1, e2, ih, List.getLast?_cons_cons]
    by_cases h : a = b
    · rw [if_pos h, if_pos h]
    · rw [if_neg h, if_neg h]
      split
      · rfl
      · rfl
/-- Of the first j those that are not the one ahead of them. -/
def dd (l : List Va) (j : Nat) : List Va := thin (l.take j)
theorem take_last {l : List Va} {j : Nat} (h0 : 0 < j) (h : j ≤ l.length) : (l.take j).getLast? = some (l[j - 1]'(by omega)) := by
  rw [List.getLast?_eq_getElem?, List.length_take, Nat.min_eq_left h, List.getElem?_take_of_lt (by omega), List.getElem?_eq_getElem (by omega)]
theorem dd_one {l : List Va} (h : 0 < l.length) : dd l 1 = l.take 1 := by
  cases l with
  | nil => simp at h
  | cons a l => simp [dd, thin]
theorem dd_new {l : List Va} {j : Nat} (h0 : 0 < j) (h : j < l.length) (he : l[j] ≠ l[j - 1]) : dd l (j + 1) = dd l j ++ [l[j]] := by
  unfold dd
  rw [List.take_succ_eq_append_getElem h, thin_snoc, take_last h0 (by omega), if_neg (by intro e; exact he (Option.some.inj e).symm)]
theorem dd_old {l : List Va} {j : Nat} (h0 : 0 < j) (h : j < l.length) (he : l[j] = l[j - 1]) : dd l (j + 1) = dd l j := by
  unfold dd
  rw [List.take_succ_eq_append_getElem h, thin_snoc, take_last h0 (by omega), if_pos (by rw [he])]
theorem dd_all {l : List Va} {n : Nat} (h : n = l.length) : dd l n = thin l := by
  unfold dd
  rw [h, List.take_length]
theorem thin_len : ∀ l : List Va, (thin l).length ≤ l.length
  | [] => by simp [thin]
  | [a] => by simp [thin]
  | a :: b :: r => by
    have ih := thin_len (b :: r)
    rw [thin]
    split
    · simp only [List.length_cons] at *; omega
    · simp only [List.length_cons] at *; omega
/-- So far none was twice. -/
def fresh (ds : List Va) (k : Nat) : Prop := dd ds k = ds.take k
theorem fresh_one {ds : List Va} (h : 0 < ds.length) : fresh ds 1 := dd_one h
theorem fresh_step {ds : List Va} {k : Nat} (h : fresh ds k) (h0 : 0 < k) (hk : k < ds.length) (he : ds[k] ≠ ds[k - 1]) : fresh ds (k + 1) := by
  unfold fresh at *
  rw [dd_new h0 hk he, h, List.take_succ_eq_append_getElem hk]
/-- Where the second walk stands. -/
def CInv (ds : List Va) (k j : Nat) (cur : List Va) : Prop := cur.length = ds.length ∧ k < j ∧ 0 < j ∧ j ≤ ds.length ∧ cur.take k = dd ds j ∧ cur.drop (j - 1) = ds.drop (j - 1)
theorem CInv.start {ds : List Va} {k : Nat} (h : fresh ds k) (h0 : 0 < k) (hk : k < ds.length) (he : ds[k] = ds[k - 1]) : CInv ds k (k + 1) ds :=
  ⟨rfl, by omega, by omega, by omega, by rw [dd_old h0 hk he]; exact h.symm, rfl⟩
theorem drop_get {cur ds : List Va} {a j : Nat} (h : cur.drop a = ds.drop a) (hl : cur.length = ds.length) (haj : a ≤ j) (hj : j < ds.length) : ∃ h' : j < cur.length, cur[j] = ds[j] := by
  have h' : j < cur.length := by omega
  refine ⟨h', ?_⟩
  have e := congrArg (fun l => l[j - a]?) h
  simp only [List.getElem?_drop] at e
  rw [show a + (j - a) = j by omega, List.getElem?_eq_getElem h', List.getElem?_eq_getElem hj] at e
  exact Option.some.inj e
theorem CInv.at {ds cur : List Va} {k j : Nat} (h : CInv ds k j cur) (hj : j < ds.length) : ∃ h' : j < cur.length, ∃ h'' : j - 1 < cur.length, ∃ h3 : j - 1 < ds.length, cur[j] = ds[j] ∧ cur[j - 1] = ds[j - 1] := by
  obtain ⟨h1, h2, h3, h4, h5, h6⟩ := h
  obtain ⟨a, b⟩ := drop_get h6 h1 (by omega) hj
  obtain ⟨c, d⟩ := drop_get h6 h1 (Nat.le_refl _) (by omega)
  exact ⟨a, c, by omega, b, d⟩
theorem CInv.keep {ds cur : List Va} {k j : Nat} (h : CInv ds k j cur) (hj : j < ds.length) (hp : ds[j] ≠ ds[j - 1]) : CInv ds (k + 1) (j + 1) (cur.set k ds[j]) := by
  obtain ⟨h1, h2, h3, h4, h5, h6⟩ := h
  refine ⟨by simpa using h1, by omega, by omega, by omega, ?_, ?_⟩
  · rw [dd_new h3 hj hp, ← h5, List.take_succ_eq_append_getElem (by simp; omega)]
    congr 1
    · rw [List.take_set_of_le (Nat.le_refl _)]
    · simp
  · rw [List.drop_set_of_lt (by omega), show j + 1 - 1 = (j - 1) + 1 by omega]
    have : cur.drop (j - 1 + 1) = (cur.drop (j - 1)).drop 1 := by rw [List.drop_drop]
    rw [this, h6, List.drop_drop]
theorem CInv.skip {ds cur : List Va} {k j : Nat} (h : CInv ds k j cur) (hj : j < ds.length) (hp : ds[j] = ds[j - 1]) : CInv ds k (j + 1) cur := by
  obtain ⟨h1, h2, h3, h4, h5, h6⟩ := h
  refine ⟨h1, by omega, by omega, by omega, by rw [dd_old h3 hj hp, ← h5], ?_⟩
  rw [show j + 1 - 1 = (j - 1) + 1 by omega]
  have : cur.drop (j - 1 + 1) = (cur.drop (j - 1)).drop 1 := by rw [List.drop_drop]
  rw [this, h6, List.drop_drop]
theorem CInv.len {ds cur : List Va} {k j : Nat} (h : CInv ds k j cur) : k = (dd ds j).length := by
  rw [← h.2.2.2.2.1, List.length_take, h.1]
  have := h.2.1
  have := h.2.2.2.1
  omega
end Rg
end Go.Proofs.YthlhopdlkkeohaaGreatDoor
