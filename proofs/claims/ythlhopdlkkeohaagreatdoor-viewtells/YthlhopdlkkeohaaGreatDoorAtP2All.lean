/- The walks of slices.Clone over items, of live's At and Under · The walks of cmp.Compare of texts, of slices.Compare, path's Compare, tree's compare and same: nothing is turned · Leaves in memory: a slice of them, rows of them that a call owns; slices.SortFunc over leaves. -/
import Derived.Test.YthlhopdlkkeohaaGreatDoorCompsAll
import Derived.Test.YthlhopdlkkeohaaGreatDoorItMemAll
import Derived.Test.YthlhopdlkkeohaaGreatDoorThinsAll
/- The walks of slices.Clone over items, of live's At and Under. -/
namespace Go.Proofs.YthlhopdlkkeohaaGreatDoor.O
open Go.RowKit

theorem its_one {w : World} {xs : List IE} (h : ∀ x ∈ xs, IOk w x) : ∀ u ∈ xs.flatMap icell, u.oneCell' = true := by
  intro u hu
  obtain ⟨x, hx, hu⟩ := List.mem_flatMap.1 hu
  exact icell_one (h x hx) u hu
theorem itsE_none {w : World} {n cap : Nat} {xs : List IE} (h : itsE w (.slice none n cap) xs) : xs = [] ∧ n = 0 ∧ cap = 0 := by
  obtain ⟨⟨ao, c, e, hm, h0, _⟩, _⟩ := h
  cases e
  have := h0 rfl
  have hz : xs.length = 0 := by omega
  exact ⟨List.eq_nil_of_length_eq_zero hz, hz, by omega⟩
/-- Items of any slice are appended. -/
theorem append_its {ops : Array Oper} {rest : List Oper} {o : Oper} {a : Act} {w : World} {Q : Exit → Act → World → Prop} (hgd : o.guard = none) (s x : Operand)
    (ho : o.op = .call { callee := .builtin .append, args := #[s, x], argTypes := #[28, 28] }) (B : Nat) (hB : B ≤ w.heap.size) (r : Value) (acc : List IE) (hs : a.eval s = r) (hown : w.ownsRow B 76 11 r acc.length (acc.flatMap icell))
    (v : Value) (ys : List IE) (hx : a.eval x = v) (hv : itsE w v ys) (hn : acc.length + ys.length ≤ 1000000)
    (h : ∀ r' w', w'.ownsRow B 76 11 r' (acc ++ ys).length ((acc ++ ys).flatMap icell) → w.grownBy w' r.ownBlock → wpList Tryz.prog ops Q rest (a.put o.dst r') w') : wpList Tryz.prog ops Q (o :: rest) a w := by
  obtain ⟨i0, hi, hz, hz1, hz2⟩ := iinfo56
  obtain ⟨⟨ao, cap, rfl, hm, h0, hc⟩, hok⟩ := id hv
  cases ao with
  | none =>
    obtain ⟨rfl, _, rfl⟩ := itsE_none hv
    refine wpList_append_own_none hgd s x 28 ho B 76 i0 11 Tryz.underlying28 hi r _ _ hs hown hx ?_
    refine h r w ?_ ⟨rfl, rfl, rfl, Nat.le_refl _, fun _ _ _ => rfl⟩
    rw [List.append_nil]
    exact hown
  | some ad =>
    refine wpList_append_own w hgd s x 28 ho B 76 i0 _ 11 128 Tryz.underlying28 hi hz hz1 hz2 rfl (by decide) r _ _ hs hown ad ys.length cap (ys.flatMap icell) hx (flat_length icell_len ys) (fun j u hu => ?_) (its_one hok) (by unfold maxLen; omega) (by omega) hB ?_
    · obtain ⟨ad', e, h3⟩ := hc j u hu
      cases e
      exact h3
    · intro v' w1 hown' hg _
      refine h v' w1 ?_ hg
      rw [List.flatMap_append, List.length_append]
      exact hown'
theorem own_emptyI (w : World) : (w.alloc (.cells #[] 76)).ownsRow w.heap.size 76 11 (.slice (some ⟨w.heap.size, 0, none⟩) 0 0) ([] : List IE).length (([] : List IE).flatMap icell) :=
  ⟨rfl, Or.inr ⟨w.heap.size, 0, #[], rfl, Nat.le_refl _, heap_alloc_new w _, Nat.le_refl _, by unfold maxLen; omega, rfl, rfl⟩⟩
set_option maxRecDepth 20000 in
theorem iclone_any (v : Value) (xs : List IE) (w : World) (hv : itsE w v xs) (hn : xs.length ≤ 1000000) :
    Calls Tryz.prog 32 #[v] w fun e w' => ∃ r, e = .returned r ∧ w'.ownsRow w.heap.size 76 11 r xs.length (xs.flatMap icell) ∧ Below w.heap.size w w' := by
  obtain ⟨ao, c, rfl⟩ := hv.slice
  cases ao with
  | none =>
    obtain ⟨rfl, _, rfl⟩ := itsE_none hv
    have heq : ∀ w, (binOp .eql 28 (.slice none 0 0) (.slice none 0 0)).run Tryz.prog w = .ok (.bool true) w := fun w => by kernel_rfl
    go_enter Tryz.func32, Tryz.ntmps32
    go_wp2
    go_ret
    exact ⟨_, rfl, World.ownsRow_nil _ _ _ _, Below.refl _ _⟩
  | some ad =>
    have hB : w.heap.size ≤ (w.alloc (.cells #[] 76)).heap.size := by simp
    have own := own_emptyI w
    have f7 : ([] : List IE).length + xs.length ≤ 1000000 := by simp; omega
    have HL : Hid (itsE (w.alloc (.cells #[] 76)) (.slice (some ad) xs.length c) xs) := hv.on (below_new w _)
    clear hv
    obtain ⟨n, hn0⟩ : ∃ n, n = xs.length := ⟨_, rfl⟩
    have HN : Hid (n = xs.length) := hn0
    rw [← hn0] at HL ⊢
    clear hn0
    have heq : ∀ w, (binOp .eql 28 (.slice (some ad) n c) (.slice none 0 0)).run Tryz.prog w = .ok (.bool false) w := fun w => by kernel_rfl
    go_enter Tryz.func32, Tryz.ntmps32
    go_wp2_with (at_builtin; refine append_its rfl _ _ rfl w.heap.size hB _ [] rfl own _ xs rfl HL.out f7 ?_; intro r3 w4 own3 hg3)
    go_ret
    refine ⟨_, rfl, ?_, (below_new w (.cells #[] 76)).grown hg3 hB (fun g e => (own.lt g e).1)⟩
    rw [HN.out]
    exact own3
theorem itsE_filter {w : World} {g cap : Nat} {xs : List IE} (h : OwnR w g icell 11 xs) (hc : xs.length ≤ cap) (hok : ∀ x ∈ xs, IOk w x) : itsE w (.slice (some ⟨g, 0, none⟩) xs.length cap) xs := ⟨h.rows icell_len hc, hok⟩
theorem itsE_nil (w : World) : itsE w (.slice none 0 0) [] := ⟨⟨none, 0, rfl, Nat.le_refl _, fun _ => rfl, fun j u hu => by simp at hu⟩, by simp⟩

set_option maxRecDepth 20000 in
set_option maxHeartbeats 1000000 in
theorem at_any (v vp : Value) (xs : List IE) (p : List (List UInt8)) (leaf : Int) (w : World) (hv : itsE w v xs) (hp : U.strsAt w vp p) (hn : xs.length ≤ 1000000) (hs : ShortI xs) :
    Calls Tryz.prog 120 #[v, vp, .int .i64 leaf] w fun e w' => ∃ r, e = .returned r ∧ itsE w' r (xs.filter fun x => isAt p leaf x.1) ∧ Below w.heap.size w w' := by
  obtain ⟨qa, qn, qc, rfl⟩ := strs_slice hp
  obtain ⟨W0, hW0⟩ : ∃ W0, W0 = (w.alloc (.cells #[.slice qa qn qc] 24)).alloc (.cells #[.int .i64 leaf] 3) := ⟨_, rfl⟩
  have hB0 : Below w.heap.size w W0 := by rw [hW0]; exact below_new2 _ _ _
  have hbox : W0.cell? ⟨w.heap.size, 0, none⟩ = some (.slice qa qn qc) := by rw [hW0]; simp
  have hlbox : W0.cell? ⟨w.heap.size + 1, 0, none⟩ = some (.int .i64 leaf) := by
    have e : (w.alloc (.cells #[.slice qa qn qc] 24)).heap.size = w.heap.size + 1 := by simp
    rw [hW0, ← e]; simp
  have HC := iclone_any v xs W0 (hv.on hB0) hn
  have hok := (hv.on hB0).2
  have HA : iaAsks W0.heap.size W0 (.pointer (some ⟨w.heap.size + 1, 0, none⟩)) (.pointer (some ⟨w.heap.size, 0, none⟩)) xs (fun x => !isAt p leaf x.1) := fun W x hx hW =>
    notAt_any x (w.heap.size + 1) w.heap.size leaf p _ W (hs x hx) ((hok x hx).on hW) (keep_cell hW hlbox) (keep_cell hW hbox) (U.strsAt_below hp (bchain hB0 hW) (Nat.le_refl _))
  have HD : ∀ r w1, w1.ownsRow W0.heap.size 76 11 r xs.length (xs.flatMap icell) → Below W0.heap.size W0 w1 → Calls Tryz.prog 152 #[r, .func (.func 153) #[] #[.pointer (some ⟨w.heap.size + 1, 0, none⟩), .pointer (some ⟨w.heap.size, 0, none⟩)]] w1 fun e w' => ∃ r, e = .returned r ∧ itsE w' r (xs.filter fun x => isAt p leaf x.1) ∧ Below W0.heap.size W0 w' := fun r w1 own hb1 => by
    rcases id own.2 with ⟨rfl, h0⟩ | ⟨g, cap, cur, rfl, hbg, hg, r1, r2, r3, r4⟩
    · obtain rfl : xs = [] := List.eq_nil_of_length_eq_zero h0
      have HI := iaindex_any (.slice none 0 0) [] W0 w1 W0.heap.size _ _ _ hb1 hb1.size (itsE_nil w1).1 (by simp) HA
      have e9 : idxF (fun x : IE => !isAt p leaf x.1) [] = -1 := rfl
      rw [e9] at HI
      clear own HA HC hok
      go_enter Tryz.func152, Tryz.ntmps152
      go_wp2_with (go_at_call 179; refine HI.mono ?_; rintro e w2 ⟨rfl, hb2⟩)
      go_ret
      exact ⟨_, rfl, itsE_nil _, bchain hb1 hb2⟩
    · obtain ⟨hO, h1, h2, h3, _⟩ := OwnR.of (f := icell) (m := 11) icell_len own
      refine (iadelete_any g cap xs W0.heap.size W0 w1 _ _ (fun x => isAt p leaf x.1) hb1 hO (fun x hx => icell_one (hok x hx)) hn h1 h2 h3 HA).mono ?_
      rintro e w2 ⟨rfl, hO2, hb2⟩
      exact ⟨_, rfl, itsE_filter hO2 (Nat.le_trans (List.length_filter_le _ _) h1) fun x hx => (hok x (List.mem_filter.1 hx).1).on hb2, hb2⟩
  clear HA hbox hlbox hv hok hp
  go_enter Tryz.func120, Tryz.ntmps120
  go_wp2_with (first | (go_at_call 32; rw [← hW0]; refine HC.mono ?_; rintro e w1 ⟨r, rfl, own, hb1⟩) | (go_at_call 152; refine (HD r w1 own hb1).mono ?_; rintro e w2 ⟨r2, rfl, hr2, hb2⟩))
  go_ret
  exact ⟨_, rfl, hr2, bchain hB0 hb2⟩

end Go.Proofs.YthlhopdlkkeohaaGreatDoor.O
/- The walks of cmp.Compare of texts, of slices.Compare, path's Compare, tree's compare and same: nothing is turned. -/
namespace Go.Proofs.YthlhopdlkkeohaaGreatDoor.U
open Go.RowKit

theorem isNaN_any (s : ByteArray) (w : World) : Calls Tryz.prog 175 #[.string s] w fun e w' => e = .returned (.bool false) ∧ w' = w := by
  go_enter Tryz.func175, Tryz.ntmps175
  go_wp2
  go_ret
  exact ⟨by simp, rfl⟩

set_option maxRecDepth 20000 in
theorem cmpText_any (a b : List UInt8) (w : World) : Calls Tryz.prog 143 #[.string ⟨a.toArray⟩, .string ⟨b.toArray⟩] w fun e w' => e = .returned (.int .i64 (Lib.compareBytes a b)) ∧ w' = w := by
  have e1 : Op.bytesLess a b = decide (Lib.compareBytes a b = -1) := Pt.less_iff a b
  have e2 : (a == b) = decide (Lib.compareBytes a b = 0) := by
    by_cases h : a = b
    · subst h; simp [Pt.cb_self]
    · rw [beq_eq_false_iff_ne.2 h, decide_eq_false (fun x => h (Pt.cb_zero x))]
  have HN1 := isNaN_any ⟨a.toArray⟩
  have HN2 := isNaN_any ⟨b.toArray⟩
  rcases Pt.cb_cases a b with h | h | h
  · rw [h] at e1 e2 ⊢
    rw [show decide ((-1 : Int) = -1) = true from rfl] at e1
    rw [show decide ((-1 : Int) = 0) = false from rfl] at e2
    clear h
    go_enter Tryz.func143, Tryz.ntmps143
    go_wp2_with (go_at_call 175; first | ((with_reducible refine (HN1 _).mono ?_); rintro e w1 ⟨rfl, rfl⟩) | ((with_reducible refine (HN2 _).mono ?_); rintro e w1 ⟨rfl, rfl⟩))
    go_ret
    exact ⟨rfl, rfl⟩
  · rw [h] at e1 e2 ⊢
    rw [show decide ((0 : Int) = -1) = false from rfl] at e1
    rw [show decide ((0 : Int) = 0) = true from rfl] at e2
    clear h
    go_enter Tryz.func143, Tryz.ntmps143
    go_wp2_with (go_at_call 175; first | ((with_reducible refine (HN1 _).mono ?_); rintro e w1 ⟨rfl, rfl⟩) | ((with_reducible refine (HN2 _).mono ?_); rintro e w1 ⟨rfl, rfl⟩))
    go_ret
    exact ⟨rfl, rfl⟩
  · rw [h] at e1 e2 ⊢
    rw [show decide ((1 : Int) = -1) = false from rfl] at e1
    rw [show decide ((1 : Int) = 0) = false from rfl] at e2
    clear h
    go_enter Tryz.func143, Tryz.ntmps143
    go_wp2_with (go_at_call 175; first | ((with_reducible refine (HN1 _).mono ?_); rintro e w1 ⟨rfl, rfl⟩) | ((with_reducible refine (HN2 _).mono ?_); rintro e w1 ⟨rfl, rfl⟩))
    go_ret
    exact ⟨rfl, rfl⟩

set_option maxRecDepth 20000 in
set_option maxHeartbeats 2000000 in
theorem slCompare_any (va vb : Value) (xs ys : List (List UInt8)) (w : World) (hx : xs.length ≤ 2000000) (_hy : ys.length ≤ 2000000) (ha : strsAt w va xs) (hb : strsAt w vb ys) :
    Calls Tryz.prog 117 #[va, vb] w fun e w' => e = .returned (.int .i64 (Pt.comp xs ys)) ∧ w' = w := by
  obtain ⟨ao, ca, rfl, _, hca⟩ := ha
  obtain ⟨bo, cb, rfl, _, hcb⟩ := hb
  go_enter Tryz.func117, Tryz.ntmps117
  go_wp2
  go_loopw [11] (fun i wr => ∃ k : Nat, i = .int .i64 k ∧ stand xs ys k ∧ wr = w) (fun i _ => xs.length - (intOf i).toNat)
  case atStart => exact ⟨0, rfl, stand_zero _ _, rfl⟩
  case round =>
    obtain ⟨k, rfl, hS, rfl⟩ := hrel
    have hk1 := hS.1
    have hk2 := hS.2.1
    by_cases h1 : k < xs.length
    · obtain ⟨ad, rfl, hA⟩ := hca k h1
      have hA2 : wr.cell? (ad.add k) = some (.string ⟨(xs[k]).toArray⟩) := hA
      clear hca hA
      by_cases h2 : k < ys.length
      · obtain ⟨bd, rfl, hB⟩ := hcb k h2
        have hB2 : wr.cell? (bd.add k) = some (.string ⟨(ys[k]).toArray⟩) := hB
        clear hcb hB
        have HC := cmpText_any xs[k] ys[k]
        by_cases he : Lib.compareBytes xs[k] ys[k] = 0
        · have HS : Hid (stand xs ys (k + 1)) := stand_succ hS h1 h2 he
          rw [he] at HC
          clear hS he
          generalize xs[k] = x at *
          generalize ys[k] = y at *
          go_wp2_with (go_at_call 143; (refine (HC _).mono ?_); rintro e w1 ⟨rfl, hw⟩; have hw := hw.symm; subst hw)
          go_roundw
          case rel => exact ⟨k + 1, by go_num, HS.out, trivial⟩
          case measure => simp [intOf]; omega
        · have HL : Hid (Lib.compareBytes xs[k] ys[k] = Pt.comp xs ys) := (stand_diff hS h1 h2 he).symm
          have hc := Pt.cb_cases xs[k] ys[k]
          have hn : (Lib.compareBytes xs[k] ys[k] != 0) = true := by simpa using he
          clear hS
          generalize xs[k] = x at *
          generalize ys[k] = y at *
          generalize Lib.compareBytes x y = c at *
          go_wp2_with (go_at_call 143; (refine (HC _).mono ?_); rintro e w1 ⟨rfl, hw⟩; have hw := hw.symm; subst hw)
          go_ret
          exact ⟨ret_int HL.out, rfl⟩
      · have HL : Hid (Pt.comp xs ys = 1) := stand_more hS h1 h2
        clear hS hcb
        generalize xs[k] = x at *
        go_wp2
        go_ret
        exact ⟨ret_int HL.out.symm, rfl⟩
    · by_cases h2 : k < ys.length
      · have HL : Hid (Pt.comp xs ys = -1) := stand_less hS h1 h2
        clear hS hcb hca
        go_wp2
        go_ret
        exact ⟨ret_int HL.out.symm, rfl⟩
      · have HL : Hid (Pt.comp xs ys = 0) := stand_same hS h1 h2
        clear hS hcb hca
        go_wp2
        go_ret
        exact ⟨ret_int HL.out.symm, rfl⟩

theorem compare_any (va vb : Value) (xs ys : List (List UInt8)) (w : World) (hx : xs.length ≤ 2000000) (hy : ys.length ≤ 2000000) (ha : strsAt w va xs) (hb : strsAt w vb ys) :
    Calls Tryz.prog 71 #[va, vb] w fun e w' => e = .returned (.int .i64 (Pt.comp xs ys)) ∧ w' = w := by
  have HC := slCompare_any va vb xs ys w hx hy ha hb
  go_enter Tryz.func71, Tryz.ntmps71
  go_wp2_with (go_at_call 117; (with_reducible refine HC.mono ?_); rintro e w1 ⟨rfl, rfl⟩)
  go_ret
  exact ⟨rfl, rfl⟩
end Go.Proofs.YthlhopdlkkeohaaGreatDoor.U
namespace Go.Proofs.YthlhopdlkkeohaaGreatDoor.O
open Go.RowKit

theorem lcomp_alike {xs ys : List (List UInt8)} {k l : Int} (h : Pt.comp xs ys = 0) : Tr.lcomp (xs, k) (ys, l) = k - l := if_pos h
theorem lcomp_unlike {xs ys : List (List UInt8)} {k l : Int} (h : Pt.comp xs ys ≠ 0) : Tr.lcomp (xs, k) (ys, l) = Pt.comp xs ys := if_neg h
set_option maxRecDepth 20000 in
set_option maxHeartbeats 1000000 in
theorem lcompare_any (p q : Value) (k l : Int) (xs ys : List (List UInt8)) (w : World) (hk : -100 ≤ k ∧ k ≤ 100) (hl : -100 ≤ l ∧ l ≤ 100) (hx : xs.length ≤ 2000000) (hy : ys.length ≤ 2000000) (ha : U.strsAt w p xs) (hb : U.strsAt w q ys) :
    Calls Tryz.prog 74 #[.agg #[p, .int .i64 k], .agg #[q, .int .i64 l]] w fun e w' => e = .returned (.int .i64 (Tr.lcomp (xs, k) (ys, l))) ∧ w' = (w.alloc (.cells #[p, .int .i64 k] 85)).alloc (.cells #[q, .int .i64 l] 85) := by
  have B0 := below_new2 w (.cells #[p, .int .i64 k] 85) (.cells #[q, .int .i64 l] 85)
  have HC := U.compare_any p q xs ys _ hx hy (U.strsAt_below ha B0 (Nat.le_refl _)) (U.strsAt_below hb B0 (Nat.le_refl _))
  have hw1 : IntKind.i64.wrap (k - l) = k - l := U.wrap_i64 (by omega) (by omega)
  obtain ⟨pa, pn, pc, rfl⟩ := strs_slice ha
  obtain ⟨qa, qn, qc, rfl⟩ := strs_slice hb
  clear ha hb B0
  by_cases h : Pt.comp xs ys = 0
  · rw [lcomp_alike h]
    rw [h] at HC
    clear h hx hy hk hl
    go_enter Tryz.func74, Tryz.ntmps74
    go_wp2_with (go_at_call 71; refine HC.mono ?_; rintro e w1 ⟨rfl, rfl⟩)
    go_ret
    exact ⟨rfl, rfl⟩
  · rw [lcomp_unlike h]
    have hn : (Pt.comp xs ys != 0) = true := by simpa using h
    clear hx hy hk hl h
    generalize Pt.comp xs ys = c at *
    go_enter Tryz.func74, Tryz.ntmps74
    go_wp2_with (go_at_call 71; refine HC.mono ?_; rintro e w1 ⟨rfl, rfl⟩)
    go_ret
    exact ⟨rfl, rfl⟩
theorem lsame_any (p q : Value) (k l : Int) (xs ys : List (List UInt8)) (w : World) (hk : -100 ≤ k ∧ k ≤ 100) (hl : -100 ≤ l ∧ l ≤ 100) (hx : xs.length ≤ 2000000) (hy : ys.length ≤ 2000000) (ha : U.strsAt w p xs) (hb : U.strsAt w q ys) :
    Calls Tryz.prog 76 #[.agg #[p, .int .i64 k], .agg #[q, .int .i64 l]] w fun e w' => e = .returned (.bool (decide (((xs, k) : Tr.Leaf) = (ys, l)))) ∧ Below w.heap.size w w' := by
  have B0 := below_new2 w (.cells #[p, .int .i64 k] 85) (.cells #[q, .int .i64 l] 85)
  have HC := lcompare_any p q k l xs ys _ hk hl hx hy (U.strsAt_below ha B0 (Nat.le_refl _)) (U.strsAt_below hb B0 (Nat.le_refl _))
  have hz := Tr.lord.zero (xs, k) (ys, l)
  have B1 := bchain B0 (below_new2 _ (.cells #[p, .int .i64 k] 85) (.cells #[q, .int .i64 l] 85))
  obtain ⟨pa, pn, pc, rfl⟩ := strs_slice ha
  obtain ⟨qa, qn, qc, rfl⟩ := strs_slice hb
  clear ha hb B0 hx hy hk hl
  have hd : decide (((xs, k) : Tr.Leaf) = (ys, l)) = (Tr.lcomp (xs, k) (ys, l) == 0) := by
    rw [Bool.eq_iff_iff, decide_eq_true_iff, beq_iff_eq, hz]
  rw [hd]
  clear hz hd
  generalize Tr.lcomp (xs, k) (ys, l) = c at *
  go_enter Tryz.func76, Tryz.ntmps76
  go_wp2_with (go_at_call 74; refine HC.mono ?_; rintro e w1 ⟨rfl, rfl⟩)
  go_ret
  exact ⟨rfl, B1⟩
set_option maxRecDepth 20000 in
set_option maxHeartbeats 1000000 in
theorem refLcompare_any (p q : Value) (k l : Int) (xs ys : List (List UInt8)) (w : World) (hk : -100 ≤ k ∧ k ≤ 100) (hl : -100 ≤ l ∧ l ≤ 100) (hx : xs.length ≤ 2000000) (hy : ys.length ≤ 2000000) (hz : ∀ x ∈ xs, x.length ≤ 2000000) (ha : U.strsAt w p xs) (hb : U.strsAt w q ys) :
    Calls Tryz.prog 79 #[.agg #[p, .int .i64 k], .agg #[q, .int .i64 l]] w fun e w' => e = .returned (.int .i64 (Tr.lcomp (xs, k) (ys, l))) ∧ Below w.heap.size w w' := by
  have B0 := below_new2 w (.cells #[p, .int .i64 k] 89) (.cells #[q, .int .i64 l] 89)
  have HC := U.refCompare_any p q xs ys _ hx hy hz (U.strsAt_below ha B0 (Nat.le_refl _)) (U.strsAt_below hb B0 (Nat.le_refl _))
  have hw1 : IntKind.i64.wrap (k - l) = k - l := U.wrap_i64 (by omega) (by omega)
  obtain ⟨pa, pn, pc, rfl⟩ := strs_slice ha
  obtain ⟨qa, qn, qc, rfl⟩ := strs_slice hb
  clear ha hb
  obtain ⟨W0, hW0⟩ : ∃ W0, W0 = (w.alloc (.cells #[.slice pa pn pc, .int .i64 k] 89)).alloc (.cells #[.slice qa qn qc, .int .i64 l] 89) := ⟨_, rfl⟩
  have c1 : W0.cell? ⟨w.heap.size, 1, none⟩ = some (.int .i64 k) := by rw [hW0]; simp
  have c2 : W0.cell? ⟨w.heap.size + 1, 1, none⟩ = some (.int .i64 l) := by
    have e : (w.alloc (.cells #[.slice pa pn pc, .int .i64 k] 89)).heap.size = w.heap.size + 1 := by simp
    rw [hW0, ← e]; simp
  rw [← hW0] at HC B0
  by_cases h : Pt.comp xs ys = 0
  · rw [lcomp_alike h]
    rw [h] at HC
    clear h hx hy hk hl hz
    go_enter Tryz.func79, Tryz.ntmps79
    go_wp2_with (go_at_call 22; rw [← hW0]; refine HC.mono ?_; rintro e w1 ⟨rfl, hb1⟩; have d1 := keep_cell hb1 c1; have d2 := keep_cell hb1 c2; clear c1 c2)
    go_ret
    exact ⟨rfl, bchain B0 hb1⟩
  · rw [lcomp_unlike h]
    have hn : (Pt.comp xs ys != 0) = true := by simpa using h
    clear hx hy hk hl h hz c1 c2
    generalize Pt.comp xs ys = c at *
    go_enter Tryz.func79, Tryz.ntmps79
    go_wp2_with (go_at_call 22; rw [← hW0]; refine HC.mono ?_; rintro e w1 ⟨rfl, hb1⟩)
    go_ret
    exact ⟨rfl, bchain B0 hb1⟩
end Go.Proofs.YthlhopdlkkeohaaGreatDoor.O
/- Leaves in memory: a slice of them, rows of them that a call owns; slices.SortFunc over leaves. -/
namespace Go.Proofs.YthlhopdlkkeohaaGreatDoor.O
open Go.RowKit Go.Shelf

/-- A leaf, its path's slice written out. -/
abbrev LE := Tr.Leaf × Value
def lcell (x : LE) : List Value := [x.2, .int .i64 x.1.2]
theorem lcell_len (x : LE) : (lcell x).length = 2 := rfl
def LOk (w : World) (x : LE) : Prop := U.strsAt w x.2 x.1.1
theorem LOk.on {w w' : World} {x : LE} (h : LOk w x) (hb : Below w.heap.size w w') : LOk w' x := U.strsAt_below h hb (Nat.le_refl _)
theorem LOk.slice {w : World} {x : LE} (h : LOk w x) : ∃ ao n c, x.2 = .slice ao n c := strs_slice h
/-- Its path's slice is a row of the call's own. -/
def LOwn (w : World) (B : Nat) (x : LE) : Prop := w.ownsRow B 9 1 x.2 x.1.1.length (U.cellsS x.1.1)
theorem LOwn.ok {w : World} {B : Nat} {x : LE} (h : LOwn w B x) : LOk w x := U.strsAt_own h
/-- Its numbers are small. -/
def LFine (x : Tr.Leaf) : Prop := (-100 ≤ x.2 ∧ x.2 ≤ 100) ∧ x.1.length ≤ 2000000 ∧ ∀ t ∈ x.1, t.length ≤ 2000000
theorem lcell_one {x : LE} (h : ∃ ao n c, x.2 = .slice ao n c) : ∀ u ∈ lcell x, u.oneCell' = true := by
  obtain ⟨ao, n, c, e⟩ := h
  intro u hu
  simp only [lcell, List.mem_cons, List.not_mem_nil, or_false] at hu
  rcases hu with rfl | rfl
  · rw [e]; rfl
  · rfl
def lvsE (w : World) (v : Value) (xs : List LE) : Prop := rowsIn w lcell v xs ∧ ∀ x ∈ xs, LOk w x
theorem lvsE.on {w w' : World} {v : Value} {xs : List LE} (h : lvsE w v xs) (hb : Below w.heap.size w w') : lvsE w' v xs := ⟨h.1.on hb, fun x hx => (h.2 x hx).on hb⟩
theorem lvsE.slice {w : World} {v : Value} {xs : List LE} (h : lvsE w v xs) : ∃ ao cap, v = .slice ao xs.length cap := by
  obtain ⟨⟨ao, cap, e, _⟩, _⟩ := h
  exact ⟨ao, cap, e⟩
/-- At this place there is this leaf. -/
structure LcAt (w : World) (p : Addr) (x : LE) : Prop where
  c0 : w.cell? p = some x.2
  c1 : w.cell? ⟨p.block, p.off + 1, none⟩ = some (.int .i64 x.1.2)
theorem LcAt.of {w : World} {p : Addr} {x : LE} (h : ∀ j u, (lcell x)[j]? = some u → w.cell? (p.add j) = some u) : LcAt w p x := by
  have e : p.add 1 = ⟨p.block, p.off + 1, none⟩ := by unfold Addr.add; simp
  have e0 : p.add 0 = p := by unfold Addr.add; simp
  refine ⟨by rw [← e0]; exact h 0 _ rfl, ?_⟩
  rw [← e]; exact h 1 _ rfl
theorem LcAt.on {w w' : World} {p : Addr} {x : LE} (h : LcAt w p x) (hb : Below w.heap.size w w') : LcAt w' p x := ⟨keep_cell hb h.c0, keep_cell hb h.c1⟩
theorem LcAt.new (w : World) (x : LE) (T : TypeId) : LcAt (w.alloc (.cells (lcell x).toArray T)) ⟨w.heap.size, 0, none⟩ x := LcAt.of (new_cells w (lcell x) T)
theorem lvsE.get {w : World} {ao : Option Addr} {n cap : Nat} {xs : List LE} (h : lvsE w (.slice ao n cap) xs) {k : Nat} (hk : k < xs.length) :
    ∃ ad, ao = some ad ∧ (∀ j u, (lcell xs[k])[j]? = some u → w.cell? ((ad.add (k * 2)).add j) = some u) ∧ LcAt w (ad.add (k * 2)) xs[k] ∧ LOk w xs[k] := by
  obtain ⟨ad, e, h1⟩ := h.1.get lcell_len (by omega) hk
  exact ⟨ad, e, h1, LcAt.of h1, h.2 _ (List.getElem_mem hk)⟩
theorem lsize77 {cs : List Value} (h : cs.length = 2) : (Tryz.prog.info? 85).map (·.size) = some cs.length := by rw [h]; kernel_rfl
theorem linfo77 : ∃ i0, Tryz.prog.info? 85 = some i0 ∧ i0.zero = some (.agg #[.slice none 0 0, .int .i64 0]) ∧ i0.size = 2 ∧ i0.bytes = 32 := info_parts (by kernel_rfl)
theorem sinfo9 : ∃ i0, Tryz.prog.info? 9 = some i0 ∧ i0.zero = some (.string ⟨#[]⟩) ∧ i0.size = 1 ∧ i0.bytes = 16 := info_parts (by kernel_rfl)
theorem ninfo3 : ∃ i0, Tryz.prog.info? 3 = some i0 ∧ i0.zero = some (.int .i64 0) ∧ i0.size = 1 ∧ i0.bytes = 8 := info_parts (by kernel_rfl)
theorem lvsE_row {w : World} {B : Nat} {v : Value} {xs : List LE} (h : rowR lcell 2 w B v xs) (ho : ∀ x ∈ xs, LOk w x) : lvsE w v xs := ⟨h.rows lcell_len, ho⟩
/-- Another block's change leaves a row. -/
theorem own_but2 {w w' : World} {B s n g : Nat} {e : TypeId} {v : Value} {xs : List Value} (h : w.ownsRow B e s v n xs) (hb : But g w w') (hg : v.ownBlock ≠ some g) : w'.ownsRow B e s v n xs := by
  refine ⟨h.1, ?_⟩
  rcases h.2 with hn | ⟨q, cap, cur, hv, hbq, hq, r⟩
  · exact Or.inl hn
  · exact Or.inr ⟨q, cap, cur, hv, hbq, (hb.block q (Array.getElem?_eq_some_iff.1 hq).1 (fun e => hg (by rw [hv, ← e]; rfl))).trans hq, r⟩
theorem but_setCells {A : World} {g : Nat} : ∀ (vs : List Value) (o : Nat) (w : World), But g A w → But g A (w.setCells g o vs)
  | [], _, _, h => h
  | v :: r, o, w, h => by rw [World.setCells]; exact but_setCells r (o + 1) _ (h.trans (But.set w g o v))

/-! ### Rows of things that are named by others (for a sort that tells a permutation) -/
section
variable {α ι : Type} [Inhabited ι] {f : α → List Value} {m : Nat}
theorem holds_ownK (hf : ∀ x, (f x).length = m) (e : ι → α) (d : List ι) {w : World} {g : Nat} (h : OwnR w g f m (d.map e)) : Go.Sort.HoldsK (fun i => f (e i)) m w g 0 d.toArray := by
  intro j hj
  rw [Go.Sort.size_flatK] at hj
  have hj' : j < d.length * m := by simpa using hj
  rw [Go.Sort.get_flatK _ _ _ _ hj, Nat.zero_add]
  have hm : 0 < m := by
    rcases Nat.eq_zero_or_pos m with q | q
    · rw [q] at hj'; omega
    · exact q
  have hk : j / m < d.length := (Nat.div_lt_iff_lt_mul hm).2 hj'
  have hr : j % m < m := Nat.mod_lt _ hm
  have e1 : d.toArray[j / m]! = d[j / m] := by simp [hk]
  rw [e1]
  obtain ⟨a, b⟩ := h.2 (j / m) (by simpa using hk)
  simp only [List.getElem_map] at a
  have hl : j % m < (f (e d[j / m])).length := by rw [hf]; exact hr
  have e2 : (f (e d[j / m]))[j % m]! = (f (e d[j / m]))[j % m] := getElem!_pos _ (j % m) hl
  have ea : j / m * m + j % m = j := by rw [Nat.mul_comm]; exact Nat.div_add_mod j m
  have c := a (j % m) _ (List.getElem?_eq_getElem hl)
  have k := (b (j % m) hr).2
  rw [ea] at c k
  exact ⟨by rw [c, e2]; rfl, k⟩
theorem own_holdsK (hf : ∀ x, (f x).length = m) (e : ι → α) (d : List ι) {w : World} {g : Nat} (hg : g < w.heap.size) (h : Go.Sort.HoldsK (fun i => f (e i)) m w g 0 d.toArray) : OwnR w g f m (d.map e) := by
  refine ⟨hg, fun k hk => ?_⟩
  have hk' : k < d.length := by simpa using hk
  have e1 : d.toArray[k]! = d[k] := by simp [hk']
  simp only [List.getElem_map]
  have key : ∀ c, c < m → w.cell? ⟨g, k * m + c, none⟩ = (f (e d[k]))[c]? ∧ w.frozen? ⟨g, k * m + c, none⟩ = false := fun c hc => by
    have h0 := h.cell (i := k) (c := c) (by simpa using hk') hc
    rw [e1, Nat.zero_add] at h0
    have hl : c < (f (e d[k])).length := by rw [hf]; exact hc
    refine ⟨h0.1.trans ?_, h0.2⟩
    rw [getElem!_pos _ c hl, List.getElem?_eq_getElem hl]
  refine ⟨fun j v hv => ?_, fun j hj => ?_⟩
  · have hj : j < m := by rw [← hf (e d[k])]; exact (List.getElem?_eq_some_iff.1 hv).1
    exact (key j hj).1.trans hv
  · obtain ⟨a, b⟩ := key j hj
    exact ⟨by rw [a, List.getElem?_eq_getElem (by rw [hf]; exact hj)]; rfl, b⟩
theorem but_sortK {enc : ι → List Value} (w : World) (g n : Nat) (d : Array ι) (os : Array Obj) : But g w (Go.Proofs.sortWorldK enc m w g 0 n d os) := by
  refine ⟨rfl, rfl, rfl, size_sortWorldK_c enc m w g 0 n d os, fun k hk hne => ?_⟩
  unfold sortWorldK
  rw [Go.Sort.heap_grow_old _ _ (by rw [Go.Sort.size_putRowK]; exact hk)]
  unfold Go.Sort.putRowK Go.Sort.putRow Go.Sort.mapBlock
  show (w.heap.modify g _)[k]? = _
  rw [Array.getElem?_modify, if_neg (by omega)]
end

theorem extract_all {α : Type} (d : Array α) (n : Nat) (h : d.size = n) : d.extract 0 n = d := by subst h; simp
def cfL {n : Nat} (e : Fin n → LE) (i j : Fin n) : Int := Tr.lcomp (e i).1 (e j).1
theorem swoL {n : Nat} (e : Fin n → LE) : Go.Sort.SWO (ltOf (cfL e)) where
  irrefl i := by
    unfold ltOf cfL
    rw [decide_eq_false_iff_not]
    exact Tr.lord.irrefl _
  trans i j k h1 h2 := by
    unfold ltOf cfL at *
    rw [decide_eq_true_eq] at *
    exact Tr.lord.trans _ _ _ h1 h2
  ntrans i j k h1 h2 := by
    unfold ltOf cfL at *
    rw [decide_eq_false_iff_not] at *
    intro q
    rcases Tr.lord.tri (e i).1 (e j).1 with t | ⟨t, _⟩ | ⟨t, _⟩
    · exact h1 t
    · rw [t] at q; exact h2 q
    · exact h2 (Tr.lord.trans _ _ _ t q)
theorem eg34 : ∀ args w, (callFunc 74 args).run Tryz.prog w = .ok (.enter 74 args) w := enters_of Tryz.func74 (by kernel_rfl) rfl
theorem sortL_any (v : Value) (xs : List LE) (B : Nat) (w0 w : World) (hb : Below B w0 w) (h : rowR lcell 2 w B v xs) (hfine : ∀ x ∈ xs, LFine x.1) (hown : ∀ x ∈ xs, LOwn w B x) (hsep : ∀ x ∈ xs, ∀ g, v.ownBlock = some g → x.2.ownBlock ≠ some g) (hn : xs.length ≤ 1000000) :
    Calls Tryz.prog 73 #[v, .func (.func 74) #[] #[]] w fun e w' => e = .returned (.tuple #[]) ∧ ∃ ys : List LE, ys.Perm xs ∧ (ys.Pairwise fun a b => Tr.lcomp a.1 b.1 ≤ 0) ∧ rowR lcell 2 w' B v ys ∧ (∀ x ∈ ys, LOwn w' B x) ∧ Below B w0 w' := by
  by_cases h0 : xs = []
  · subst h0
    obtain ⟨ao, cap, rfl⟩ := h.slice
    have k : Calls Tryz.prog 73 #[.slice ao 0 cap, .func (.func 74) #[] #[]] w fun e w' => e = .returned (.tuple #[]) ∧ w' = w := AnyF.slices_SortFunc_none laySort ao cap _ w
    refine k.mono ?_
    rintro e w' ⟨rfl, rfl⟩
    exact ⟨rfl, [], List.Perm.refl _, List.Pairwise.nil, h, hown, hb⟩
  · have hpos : 0 < xs.length := List.length_pos_iff.2 h0
    rcases h with ⟨_, e⟩ | ⟨g, cap, rfl, h2, h3, h4, h5⟩
    · exact absurd e h0
    · have inst : Inhabited (Fin xs.length) := ⟨⟨0, hpos⟩⟩
      obtain ⟨e, he⟩ : ∃ e : Fin xs.length → LE, e = fun i => xs[i] := ⟨_, rfl⟩
      obtain ⟨d, hd⟩ : ∃ d : List (Fin xs.length), d = List.finRange xs.length := ⟨_, rfl⟩
      have hdl : d.length = xs.length := by rw [hd]; simp
      have hde : d.map e = xs := by
        rw [hd, he]
        apply List.ext_getElem
        · simp
        · intro i h1 h2; simp
      have hmem : ∀ i, e i ∈ xs := fun i => by rw [he]; exact List.getElem_mem _
      have hH : Go.Sort.HoldsK (fun i => lcell (e i)) 2 w g 0 d.toArray := holds_ownK lcell_len e d (by rw [hde]; exact h5)
      have hcmp : CmpLays Tryz.prog 74 #[] (fun i => lcell (e i)) 2 (cfL e) g 0 d.toArray.size w := by
        intro m os dk _ i j
        have hB := but_sortK (m := 2) (enc := fun i => lcell (e i)) w g m dk os
        have oi := own_but2 (hown _ (hmem i)) hB (hsep _ (hmem i) g rfl)
        have oj := own_but2 (hown _ (hmem j)) hB (hsep _ (hmem j) g rfl)
        obtain ⟨fi, li, _⟩ := hfine _ (hmem i)
        obtain ⟨fj, lj, _⟩ := hfine _ (hmem j)
        refine (lcompare_any (e i).2 (e j).2 (e i).1.2 (e j).1.2 (e i).1.1 (e j).1.1 _ fi fj li lj (U.strsAt_own oi) (U.strsAt_own oj)).mono ?_
        rintro r w' ⟨rfl, rfl⟩
        refine ⟨rfl, 0, #[.cells #[(e i).2, .int .i64 (e i).1.2] 85, .cells #[(e j).2, .int .i64 (e j).1.2] 85], ?_⟩
        rw [Go.Sort.alloc_eq_grow, Go.Sort.alloc_eq_grow, Go.Sort.grow_grow]
        rfl
      have k := AnyQ.slices_SortFunc laySort 2 Tryz.isAgg85 Tryz.sizeOf85 (fun i => lcell (e i)) (fun i => rfl) (fun i => lcell_one (LOwn.ok (hown _ (hmem i))).slice) (cfL e) (swoL e) 74 #[] g 0 cap d.toArray w eg34 hcmp hH h5.1 (by simp; omega)
      rw [List.size_toArray, hdl] at k
      change Calls Tryz.prog 73 _ _ _ at k
      refine k.mono ?_
      rintro r w' ⟨rfl, d', n, os, ⟨p1, _, p3⟩, hs, rfl⟩
      have hsz : d'.size = xs.length := by rw [p1]; simp [hdl]
      have hB := but_sortK (m := 2) (enc := fun i => lcell (e i)) w g n d' os
      have hp : d'.toList.Perm d := by
        have e1 : d'.extract 0 xs.length = d' := extract_all _ _ hsz
        have e2 : d.toArray.extract 0 xs.length = d.toArray := extract_all _ _ (by simpa using hdl)
        rw [e1, e2] at p3
        simpa using p3
      have hg' : g < (Go.Proofs.sortWorldK (fun i => lcell (e i)) 2 w g 0 n d' os).heap.size := Nat.lt_of_lt_of_le h5.1 hB.size
      have hO : OwnR (Go.Proofs.sortWorldK (fun i => lcell (e i)) 2 w g 0 n d' os) g lcell 2 (d'.toList.map e) := by
        refine own_holdsK lcell_len e d'.toList hg' ?_
        rw [Array.toArray_toList]
        exact holdsK_sortWorldK_c (fun i => lcell (e i)) 2 w g 0 d.toArray d' n os hH h5.1 (by rw [hsz]; simp [hdl])
      have hyl : (d'.toList.map e).length = xs.length := by simp [hsz]
      have hm2 : ∀ x ∈ d'.toList.map e, x ∈ xs := fun x hx => by
        obtain ⟨i, _, rfl⟩ := List.mem_map.1 hx
        exact hmem i
      refine ⟨rfl, d'.toList.map e, ?_, ?_, .inr ⟨g, cap, by rw [hyl], by rw [hyl]; exact h2, h3, h4, hO⟩, fun x hx => own_but2 (hown _ (hm2 x hx)) hB (hsep _ (hm2 x hx) g rfl), ?_⟩
      · have := hp.map e
        rwa [hde] at this
      · rw [List.pairwise_map, List.pairwise_iff_getElem]
        intro i j hi hj hij
        have hs1 := hs i j (Nat.zero_le _) hij (by simpa [hsz] using hj)
        have hi' : i < d'.size := by simpa using hi
        have hj' : j < d'.size := by simpa using hj
        rw [getElem!_pos d' i hi', getElem!_pos d' j hj'] at hs1
        unfold ltOf cfL at hs1
        rw [decide_eq_false_iff_not] at hs1
        have t := Tr.lord.turn (e d'[j]).1 (e d'[i]).1
        simp only [Array.getElem_toList]
        omega
      · exact hb.trans (hB.below h4 (by have := h5.1; omega))
end Go.Proofs.YthlhopdlkkeohaaGreatDoor.O
