/- The walks of slices.Clone over items, of live's At and Under · The walks of cmp.Compare of texts, of slices.Compare, path's Compare, tree's compare and same: nothing is turned. -/
import Derived.Test.YthlhopdlkkeohaaGreatDoorAtP
import Derived.Test.YthlhopdlkkeohaaGreatDoorCompPAll
import Derived.Test.YthlhopdlkkeohaaGreatDoorLivesAll
import Derived.Test.YthlhopdlkkeohaaGreatDoorLinesAll
/- The walks of slices.Clone over items, of live's At and Under. -/
namespace Go.Proofs.YthlhopdlkkeohaaGreatDoor.O
open Go.RowKit

theorem its_one {w : World} {xs : List IE} (h : ∀ x ∈ xs, IOk w x) : ∀ u ∈ xs.flatMap icell, u.oneCell' = true := by
  intro u hu
  obtain ⟨x, hx, hu⟩ := List.mem_flatMap.1 hu
  exact icell_one (h x hx) u hu
theorem itsE_none {w : World} {n cap : Nat} {xs : List IE} (h : itsE w (.slice none n cap) xs) : xs = [] ∧ n = 0 ∧ cap = 0 := by
  obtain ⟨⟨ao, c, e, hm, h0, _⟩, _⟩ := h
  cases e
  have := h0 rfl
  have hz : xs.length = 0 := by omega
  exact ⟨List.eq_nil_of_length_eq_zero hz, hz, by omega⟩
/-- Items of any slice are appended. -/
theorem append_its {ops : Array Oper} {rest : List Oper} {o : Oper} {a : Act} {w : World} {Q : Exit → Act → World → Prop} (hgd : o.guard = none) (s x : Operand)
    (ho : o.op = .call { callee := .builtin .append, args := #[s, x], argTypes := #[28, 28] }) (B : Nat) (hB : B ≤ w.heap.size) (r : Value) (acc : List IE) (hs : a.eval s = r) (hown : w.ownsRow B 76 11 r acc.length (acc.flatMap icell))
    (v : Value) (ys : List IE) (hx : a.eval x = v) (hv : itsE w v ys) (hn : acc.length + ys.length ≤ 1000000)
    (h : ∀ r' w', w'.ownsRow B 76 11 r' (acc ++ ys).length ((acc ++ ys).flatMap icell) → w.grownBy w' r.ownBlock → wpList Tryz.prog ops Q rest (a.put o.dst r') w') : wpList Tryz.prog ops Q (o :: rest) a w := by
  obtain ⟨i0, hi, hz, hz1, hz2⟩ := iinfo56
  obtain ⟨⟨ao, cap, rfl, hm, h0, hc⟩, hok⟩ := id hv
  cases ao with
  | none =>
    obtain ⟨rfl, _, rfl⟩ := itsE_none hv
    refine wpList_append_own_none hgd s x 28 ho B 76 i0 11 Tryz.underlying28 hi r _ _ hs hown hx ?_
    refine h r w ?_ ⟨rfl, rfl, rfl, Nat.le_refl _, fun _ _ _ => rfl⟩
    rw [List.append_nil]
    exact hown
  | some ad =>
    refine wpList_append_own w hgd s x 28 ho B 76 i0 _ 11 128 Tryz.underlying28 hi hz hz1 hz2 rfl (by decide) r _ _ hs hown ad ys.length cap (ys.flatMap icell) hx (flat_length icell_len ys) (fun j u hu => ?_) (its_one hok) (by unfold maxLen; omega) (by omega) hB ?_
    · obtain ⟨ad', e, h3⟩ := hc j u hu
      cases e
      exact h3
    · intro v' w1 hown' hg _
      refine h v' w1 ?_ hg
      rw [List.flatMap_append, List.length_append]
      exact hown'
theorem own_emptyI (w : World) : (w.alloc (.cells #[] 76)).ownsRow w.heap.size 76 11 (.slice (some ⟨w.heap.size, 0, none⟩) 0 0) ([] : List IE).length (([] : List IE).flatMap icell) :=
  ⟨rfl, Or.inr ⟨w.heap.size, 0, #[], rfl, Nat.le_refl _, heap_alloc_new w _, Nat.le_refl _, by unfold maxLen; omega, rfl, rfl⟩⟩
set_option maxRecDepth 20000 in
theorem iclone_any (v : Value) (xs : List IE) (w : World) (hv : itsE w v xs) (hn : xs.length ≤ 1000000) :
    Calls Tryz.prog 32 #[v] w fun e w' => ∃ r, e = .returned r ∧ w'.ownsRow w.heap.size 76 11 r xs.length (xs.flatMap icell) ∧ Below w.heap.size w w' := by
  obtain ⟨ao, c, rfl⟩ := hv.slice
  cases ao with
  | none =>
    obtain ⟨rfl, _, rfl⟩ := itsE_none hv
    have heq : ∀ w, (binOp .eql 28 (.slice none 0 0) (.slice none 0 0)).run Tryz.prog w = .ok (.bool true) w := fun w => by kernel_rfl
    go_enter Tryz.func32, Tryz.ntmps32
    go_wp2
    go_ret
    exact ⟨_, rfl, World.ownsRow_nil _ _ _ _, Below.refl _ _⟩
  | some ad =>
    have hB : w.heap.size ≤ (w.alloc (.cells #[] 76)).heap.size := by simp
    have own := own_emptyI w
    have f7 : ([] : List IE).length + xs.length ≤ 1000000 := by simp; omega
    have HL : Hid (itsE (w.alloc (.cells #[] 76)) (.slice (some ad) xs.length c) xs) := hv.on (below_new w _)
    clear hv
    obtain ⟨n, hn0⟩ : ∃ n, n = xs.length := ⟨_, rfl⟩
    have HN : Hid (n = xs.length) := hn0
    rw [← hn0] at HL ⊢
    clear hn0
    have heq : ∀ w, (binOp .eql 28 (.slice (some ad) n c) (.slice none 0 0)).run Tryz.prog w = .ok (.bool false) w := fun w => by kernel_rfl
    go_enter Tryz.func32, Tryz.ntmps32
    go_wp2_with (at_builtin; refine append_its rfl _ _ rfl w.heap.size hB _ [] rfl own _ xs rfl HL.out f7 ?_; intro r3 w4 own3 hg3)
    go_ret
    refine ⟨_, rfl, ?_, (below_new w (.cells #[] 76)).grown hg3 hB (fun g e => (own.lt g e).1)⟩
    rw [HN.out]
    exact own3
theorem itsE_filter {w : World} {g cap : Nat} {xs : List IE} (h : OwnR w g icell 11 xs) (hc : xs.length ≤ cap) (hok : ∀ x ∈ xs, IOk w x) : itsE w (.slice (some ⟨g, 0, none⟩) xs.length cap) xs := ⟨h.rows icell_len hc, hok⟩
theorem itsE_nil (w : World) : itsE w (.slice none 0 0) [] := ⟨⟨none, 0, rfl, Nat.le_refl _, fun _ => rfl, fun j u hu => by simp at hu⟩, by simp⟩

set_option maxRecDepth 20000 in
set_option maxHeartbeats 1000000 in
theorem at_any (v vp : Value) (xs : List IE) (p : List (List UInt8)) (leaf : Int) (w : World) (hv : itsE w v xs) (hp : U.strsAt w vp p) (hn : xs.length ≤ 1000000) (hs : ShortI xs) :
    Calls Tryz.prog 120 #[v, vp, .int .i64 leaf] w fun e w' => ∃ r, e = .returned r ∧ itsE w' r (xs.filter fun x => isAt p leaf x.1) ∧ Below w.heap.size w w' := by
  obtain ⟨qa, qn, qc, rfl⟩ := strs_slice hp
  obtain ⟨W0, hW0⟩ : ∃ W0, W0 = (w.alloc (.cells #[.slice qa qn qc] 24)).alloc (.cells #[.int .i64 leaf] 3) := ⟨_, rfl⟩
  have hB0 : Below w.heap.size w W0 := by rw [hW0]; exact below_new2 _ _ _
  have hbox : W0.cell? ⟨w.heap.size, 0, none⟩ = some (.slice qa qn qc) := by rw [hW0]; simp
  have hlbox : W0.cell? ⟨w.heap.size + 1, 0, none⟩ = some (.int .i64 leaf) := by
    have e : (w.alloc (.cells #[.slice qa qn qc] 24)).heap.size = w.heap.size + 1 := by simp
    rw [hW0, ← e]; simp
  have HC := iclone_any v xs W0 (hv.on hB0) hn
  have hok := (hv.on hB0).2
  have HA : iaAsks W0.heap.size W0 (.pointer (some ⟨w.heap.size + 1, 0, none⟩)) (.pointer (some ⟨w.heap.size, 0, none⟩)) xs (fun x => !isAt p leaf x.1) := fun W x hx hW =>
    notAt_any x (w.heap.size + 1) w.heap.size leaf p _ W (hs x hx) ((hok x hx).on hW) (keep_cell hW hlbox) (keep_cell hW hbox) (U.strsAt_below hp (bchain hB0 hW) (Nat.le_refl _))
  have HD : ∀ r w1, w1.ownsRow W0.heap.size 76 11 r xs.length (xs.flatMap icell) → Below W0.heap.size W0 w1 → Calls Tryz.prog 152 #[r, .func (.func 153) #[] #[.pointer (some ⟨w.heap.size + 1, 0, none⟩), .pointer (some ⟨w.heap.size, 0, none⟩)]] w1 fun e w' => ∃ r, e = .returned r ∧ itsE w' r (xs.filter fun x => isAt p leaf x.1) ∧ Below W0.heap.size W0 w' := fun r w1 own hb1 => by
    rcases id own.2 with ⟨rfl, h0⟩ | ⟨g, cap, cur, rfl, hbg, hg, r1, r2, r3, r4⟩
    · obtain rfl : xs = [] := List.eq_nil_of_length_eq_zero h0
      have HI := iaindex_any (.slice none 0 0) [] W0 w1 W0.heap.size _ _ _ hb1 hb1.size (itsE_nil w1).1 (by simp) HA
      have e9 : idxF (fun x : IE => !isAt p leaf x.1) [] = -1 := rfl
      rw [e9] at HI
      clear own HA HC hok
      go_enter Tryz.func152, Tryz.ntmps152
      go_wp2_with (go_at_call 179; refine HI.mono ?_; rintro e w2 ⟨rfl, hb2⟩)
      go_ret
      exact ⟨_, rfl, itsE_nil _, bchain hb1 hb2⟩
    · obtain ⟨hO, h1, h2, h3, _⟩ := OwnR.of (f := icell) (m := 11) icell_len own
      refine (iadelete_any g cap xs W0.heap.size W0 w1 _ _ (fun x => isAt p leaf x.1) hb1 hO (fun x hx => icell_one (hok x hx)) hn h1 h2 h3 HA).mono ?_
      rintro e w2 ⟨rfl, hO2, hb2⟩
      exact ⟨_, rfl, itsE_filter hO2 (Nat.le_trans (List.length_filter_le _ _) h1) fun x hx => (hok x (List.mem_filter.1 hx).1).on hb2, hb2⟩
  clear HA hbox hlbox hv hok hp
  go_enter Tryz.func120, Tryz.ntmps120
  go_wp2_with (first | (go_at_call 32; rw [← hW0]; refine HC.mono ?_; rintro e w1 ⟨r, rfl, own, hb1⟩) | (go_at_call 152; refine (HD r w1 own hb1).mono ?_; rintro e w2 ⟨r2, rfl, hr2, hb2⟩))
  go_ret
  exact ⟨_, rfl, hr2, bchain hB0 hb2⟩

end Go.Proofs.YthlhopdlkkeohaaGreatDoor.O
/- The walks of cmp.Compare of texts, of slices.Compare, path's Compare, tree's compare and same: nothing is turned. -/
namespace Go.Proofs.YthlhopdlkkeohaaGreatDoor.U
open Go.RowKit

theorem isNaN_any (s : ByteArray) (w : World) : Calls Tryz.prog 175 #[.string s] w fun e w' => e = .returned (.bool false) ∧ w' = w := by
  go_enter Tryz.func175, Tryz.ntmps175
  go_wp2
  go_ret
  exact ⟨by simp, rfl⟩

set_option maxRecDepth 20000 in
theorem cmpText_any (a b : List UInt8) (w : World) : Calls Tryz.prog 143 #[.string ⟨a.toArray⟩, .string ⟨b.toArray⟩] w fun e w' => e = .returned (.int .i64 (Lib.compareBytes a b)) ∧ w' = w := by
  have e1 : Op.bytesLess a b = decide (Lib.compareBytes a b = -1) := Pt.less_iff a b
  have e2 : (a == b) = decide (Lib.compareBytes a b = 0) := by
    by_cases h : a = b
    · subst h; simp [Pt.cb_self]
    · rw [beq_eq_false_iff_ne.2 h, decide_eq_false (fun x => h (Pt.cb_zero x))]
  have HN1 := isNaN_any ⟨a.toArray⟩
  have HN2 := isNaN_any ⟨b.toArray⟩
  rcases Pt.cb_cases a b with h | h | h
  · rw [h] at e1 e2 ⊢
    rw [show decide ((-1 : Int) = -1) = true from rfl] at e1
    rw [show decide ((-1 : Int) = 0) = false from rfl] at e2
    clear h
    go_enter Tryz.func143, Tryz.ntmps143
    go_wp2_with (go_at_call 175; first | ((with_reducible refine (HN1 _).mono ?_); rintro e w1 ⟨rfl, rfl⟩) | ((with_reducible refine (HN2 _).mono ?_); rintro e w1 ⟨rfl, rfl⟩))
    go_ret
    exact ⟨rfl, rfl⟩
  · rw [h] at e1 e2 ⊢
    rw [show decide ((0 : Int) = -1) = false from rfl] at e1
    rw [show decide ((0 : Int) = 0) = true from rfl] at e2
    clear h
    go_enter Tryz.func143, Tryz.ntmps143
    go_wp2_with (go_at_call 175; first | ((with_reducible refine (HN1 _).mono ?_); rintro e w1 ⟨rfl, rfl⟩) | ((with_reducible refine (HN2 _).mono ?_); rintro e w1 ⟨rfl, rfl⟩))
    go_ret
    exact ⟨rfl, rfl⟩
  · rw [h] at e1 e2 ⊢
    rw [show decide ((1 : Int) = -1) = false from rfl] at e1
    rw [show decide ((1 : Int) = 0) = false from rfl] at e2
    clear h
    go_enter Tryz.func143, Tryz.ntmps143
    go_wp2_with (go_at_call 175; first | ((with_reducible refine (HN1 _).mono ?_); rintro e w1 ⟨rfl, rfl⟩) | ((with_reducible refine (HN2 _).mono ?_); rintro e w1 ⟨rfl, rfl⟩))
    go_ret
    exact ⟨rfl, rfl⟩

set_option maxRecDepth 20000 in
set_option maxHeartbeats 2000000 in
theorem slCompare_any (va vb : Value) (xs ys : List (List UInt8)) (w : World) (hx : xs.length ≤ 2000000) (_hy : ys.length ≤ 2000000) (ha : strsAt w va xs) (hb : strsAt w vb ys) :
    Calls Tryz.prog 117 #[va, vb] w fun e w' => e = .returned (.int .i64 (Pt.comp xs ys)) ∧ w' = w := by
  obtain ⟨ao, ca, rfl, _, hca⟩ := ha
  obtain ⟨bo, cb, rfl, _, hcb⟩ := hb
  go_enter Tryz.func117, Tryz.ntmps117
  go_wp2
  go_loopw [11] (fun i wr => ∃ k : Nat, i = .int .i64 k ∧ stand xs ys k ∧ wr = w) (fun i _ => xs.length - (intOf i).toNat)
  case atStart => exact ⟨0, rfl, stand_zero _ _, rfl⟩
  case round =>
    obtain ⟨k, rfl, hS, rfl⟩ := hrel
    have hk1 := hS.1
    have hk2 := hS.2.1
    by_cases h1 : k < xs.length
    · obtain ⟨ad, rfl, hA⟩ := hca k h1
      have hA2 : wr.cell? (ad.add k) = some (.string ⟨(xs[k]).toArray⟩) := hA
      clear hca hA
      by_cases h2 : k < ys.length
      · obtain ⟨bd, rfl, hB⟩ := hcb k h2
        have hB2 : wr.cell? (bd.add k) = some (.string ⟨(ys[k]).toArray⟩) := hB
        clear hcb hB
        have HC := cmpText_any xs[k] ys[k]
        by_cases he : Lib.compareBytes xs[k] ys[k] = 0
        · have HS : Hid (stand xs ys (k + 1)) := stand_succ hS h1 h2 he
          rw [he] at HC
          clear hS he
          generalize xs[k] = x at *
          generalize ys[k] = y at *
          go_wp2_with (go_at_call 143; (refine (HC _).mono ?_); rintro e w1 ⟨rfl, hw⟩; have hw := hw.symm; subst hw)
          go_roundw
          case rel => exact ⟨k + 1, by go_num, HS.out, trivial⟩
          case measure => simp [intOf]; omega
        · have HL : Hid (Lib.compareBytes xs[k] ys[k] = Pt.comp xs ys) := (stand_diff hS h1 h2 he).symm
          have hc := Pt.cb_cases xs[k] ys[k]
          have hn : (Lib.compareBytes xs[k] ys[k] != 0) = true := by simpa using he
          clear hS
          generalize xs[k] = x at *
          generalize ys[k] = y at *
          generalize Lib.compareBytes x y = c at *
          go_wp2_with (go_at_call 143; (refine (HC _).mono ?_); rintro e w1 ⟨rfl, hw⟩; have hw := hw.symm; subst hw)
          go_ret
          exact ⟨ret_int HL.out, rfl⟩
      · have HL : Hid (Pt.comp xs ys = 1) := stand_more hS h1 h2
        clear hS hcb
        generalize xs[k] = x at *
        go_wp2
        go_ret
        exact ⟨ret_int HL.out.symm, rfl⟩
    · by_cases h2 : k < ys.length
      · have HL : Hid (Pt.comp xs ys = -1) := stand_less hS h1 h2
        clear hS hcb hca
        go_wp2
        go_ret
        exact ⟨ret_int HL.out.symm, rfl⟩
      · have HL : Hid (Pt.comp xs ys = 0) := stand_same hS h1 h2
        clear hS hcb hca
        go_wp2
        go_ret
        exact ⟨ret_int HL.out.symm, rfl⟩

theorem compare_any (va vb : Value) (xs ys : List (List UInt8)) (w : World) (hx : xs.length ≤ 2000000) (hy : ys.length ≤ 2000000) (ha : strsAt w va xs) (hb : strsAt w vb ys) :
    Calls Tryz.prog 71 #[va, vb] w fun e w' => e = .returned (.int .i64 (Pt.comp xs ys)) ∧ w' = w := by
  have HC := slCompare_any va vb xs ys w hx hy ha hb
  go_enter Tryz.func71, Tryz.ntmps71
  go_wp2_with (go_at_call 117; (with_reducible refine HC.mono ?_); rintro e w1 ⟨rfl, rfl⟩)
  go_ret
  exact ⟨rfl, rfl⟩
end Go.Proofs.YthlhopdlkkeohaaGreatDoor.U
namespace Go.Proofs.YthlhopdlkkeohaaGreatDoor.O
open Go.RowKit

theorem lcomp_alike {xs ys : List (List UInt8)} {k l : Int} (h : Pt.comp xs ys = 0) : Tr.lcomp (xs, k) (ys, l) = k - l := if_pos h
theorem lcomp_unlike {xs ys : List (List UInt8)} {k l : Int} (h : Pt.comp xs ys ≠ 0) : Tr.lcomp (xs, k) (ys, l) = Pt.comp xs ys := if_neg h
set_option maxRecDepth 20000 in
set_option maxHeartbeats 1000000 in
theorem lcompare_any (p q : Value) (k l : Int) (xs ys : List (List UInt8)) (w : World) (hk : -100 ≤ k ∧ k ≤ 100) (hl : -100 ≤ l ∧ l ≤ 100) (hx : xs.length ≤ 2000000) (hy : ys.length ≤ 2000000) (ha : U.strsAt w p xs) (hb : U.strsAt w q ys) :
    Calls Tryz.prog 74 #[.agg #[p, .int .i64 k], .agg #[q, .int .i64 l]] w fun e w' => e = .returned (.int .i64 (Tr.lcomp (xs, k) (ys, l))) ∧ w' = (w.alloc (.cells #[p, .int .i64 k] 85)).alloc (.cells #[q, .int .i64 l] 85) := by
  have B0 := below_new2 w (.cells #[p, .int .i64 k] 85) (.cells #[q, .int .i64 l] 85)
  have HC := U.compare_any p q xs ys _ hx hy (U.strsAt_below ha B0 (Nat.le_refl _)) (U.strsAt_below hb B0 (Nat.le_refl _))
  have hw1 : IntKind.i64.wrap (k - l) = k - l := U.wrap_i64 (by omega) (by omega)
  obtain ⟨pa, pn, pc, rfl⟩ := strs_slice ha
  obtain ⟨qa, qn, qc, rfl⟩ := strs_slice hb
  clear ha hb B0
  by_cases h : Pt.comp xs ys = 0
  · rw [lcomp_alike h]
    rw [h] at HC
    clear h hx hy hk hl
    go_enter Tryz.func74, Tryz.ntmps74
    go_wp2_with (go_at_call 71; refine HC.mono ?_; rintro e w1 ⟨rfl, rfl⟩)
    go_ret
    exact ⟨rfl, rfl⟩
  · rw [lcomp_unlike h]
    have hn : (Pt.comp xs ys != 0) = true := by simpa using h
    clear hx hy hk hl h
    generalize Pt.comp xs ys = c at *
    go_enter Tryz.func74, Tryz.ntmps74
    go_wp2_with (go_at_call 71; refine HC.mono ?_; rintro e w1 ⟨rfl, rfl⟩)
    go_ret
    exact ⟨rfl, rfl⟩
theorem lsame_any (p q : Value) (k l : Int) (xs ys : List (List UInt8)) (w : World) (hk : -100 ≤ k ∧ k ≤ 100) (hl : -100 ≤ l ∧ l ≤ 100) (hx : xs.length ≤ 2000000) (hy : ys.length ≤ 2000000) (ha : U.strsAt w p xs) (hb : U.strsAt w q ys) :
    Calls Tryz.prog 76 #[.agg #[p, .int .i64 k], .agg #[q, .int .i64 l]] w fun e w' => e = .returned (.bool (decide (((xs, k) : Tr.Leaf) = (ys, l)))) ∧ Below w.heap.size w w' := by
  have B0 := below_new2 w (.cells #[p, .int .i64 k] 85) (.cells #[q, .int .i64 l] 85)
  have HC := lcompare_any p q k l xs ys _ hk hl hx hy (U.strsAt_below ha B0 (Nat.le_refl _)) (U.strsAt_below hb B0 (Nat.le_refl _))
  have hz := Tr.lord.zero (xs, k) (ys, l)
  have B1 := bchain B0 (below_new2 _ (.cells #[p, .int .i64 k] 85) (.cells #[q, .int .i64 l] 85))
  obtain ⟨pa, pn, pc, rfl⟩ := strs_slice ha
  obtain ⟨qa, qn, qc, rfl⟩ := strs_slice hb
  clear ha hb B0 hx hy hk hl
  have hd : decide (((xs, k) : Tr.Leaf) = (ys, l)) = (Tr.lcomp (xs, k) (ys, l) == 0) := by
    rw [Bool.eq_iff_iff, decide_eq_true_iff, beq_iff_eq, hz]
  rw [hd]
  clear hz hd
  generalize Tr.lcomp (xs, k) (ys, l) = c at *
  go_enter Tryz.func76, Tryz.ntmps76
  go_wp2_with (go_at_call 74; refine HC.mono ?_; rintro e w1 ⟨rfl, rfl⟩)
  go_ret
  exact ⟨rfl, B1⟩
end Go.Proofs.YthlhopdlkkeohaaGreatDoor.O
