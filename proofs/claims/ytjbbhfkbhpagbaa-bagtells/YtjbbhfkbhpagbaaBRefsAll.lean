/- One reference appended to a row; the walk of the document's SameRefs at equal lists · The walks of bag's adds, Adds and Has · The walk of the document's Adds. -/
import Derived.Test.YtjbbhfkbhpagbaaAtPAll
import Derived.Test.YtjbbhfkbhpagbaaVCompact
/- One reference appended to a row; the walk of the document's SameRefs at equal lists. -/
namespace Go.Proofs.Ytjbbhfkbhpagbaa.O
open Go.RowKit

theorem neq_cnt_same (x : U) (w : World) : (binOp .neq 51 (uV x) (uV x)).run Try.prog w = .ok (.bool false) w := by rw [neq_cnt]; simp
/-- One reference is appended to a row that the call owns. -/
theorem append_ref {ops : Array Oper} {rest : List Oper} {o : Oper} {a : Act} {w : World} {Q : Exit → Act → World → Prop} (hgd : o.guard = none) (s x : Operand)
    (ho : o.op = .call { callee := .builtin .append, args := #[s, x], argTypes := #[34, 34] }) (B : Nat) (hB : B ≤ w.heap.size) (r : Value) (acc : List U) (hs : a.eval s = r) (hown : w.ownsRow B 51 3 r acc.length (ucells acc))
    (g : Nat) (y : U) (hx : a.eval x = .slice (some ⟨g, 0, none⟩) 1 1) (hv : ∀ j v, (ucells [y])[j]? = some v → w.cell? ((⟨g, 0, none⟩ : Addr).add j) = some v) (hn : acc.length + 1 ≤ 1000001)
    (h : ∀ r' w', w'.ownsRow B 51 3 r' (acc ++ [y]).length (ucells (acc ++ [y])) → w.grownBy w' r.ownBlock → wpList Try.prog ops Q rest (a.put o.dst r') w') : wpList Try.prog ops Q (o :: rest) a w := by
  obtain ⟨i0, hi, hz, hz1, hz2⟩ := info31
  refine wpList_append_own w hgd s x 34 ho B 51 i0 _ 3 24 Try.underlying34 hi hz hz1 hz2 rfl (by decide) r _ _ hs hown ⟨g, 0, none⟩ 1 1 (ucells [y]) hx (ucells_length [y]) hv (ucells_one [y]) (by unfold maxLen; omega) (by omega) hB ?_
  intro v' w1 hown' hg _
  exact h v' w1 (own_snoc hown') hg

set_option maxRecDepth 20000 in
set_option maxHeartbeats 2000000 in
theorem sameRefs_any (va vb : Value) (l : List U) (w : World) (ha : refsIn w va l) (hb : refsIn w vb l) (hn : l.length ≤ 1000000) :
    Calls Try.prog 13 #[va, vb] w fun e w' => e = .returned (.bool true) ∧ Below w.heap.size w w' := by
  obtain ⟨ao, cx, rfl, _, _, _⟩ := id ha
  obtain ⟨bo, cy, rfl, _, _, _⟩ := id hb
  obtain ⟨n, hn0⟩ : ∃ n, n = l.length := ⟨_, rfl⟩
  have HN : Hid (n = l.length) := hn0
  rw [← hn0] at ha hb hn ⊢
  have HA : Hid (refsIn w (.slice ao n cx) l) := ha
  have HB : Hid (refsIn w (.slice bo n cy) l) := hb
  clear hn0 ha hb
  go_enter Try.func13, Try.ntmps13
  go_wp2
  go_loopw [5] (fun i wr => ∃ k : Nat, k ≤ n ∧ i = .int .i64 k ∧ Below w.heap.size w wr) (fun i _ => n - (intOf i).toNat)
  case atStart => exact ⟨0, by omega, rfl, Below.refl _ _⟩
  case round =>
    obtain ⟨k, hk, rfl, hbw⟩ := hrel
    by_cases hkn : k < n
    · have hkx : k < l.length := by rw [← HN.out]; exact hkn
      obtain ⟨ax, rfl, hX⟩ := HA.out.get hkx
      obtain ⟨ay, rfl, hY⟩ := HB.out.get hkx
      obtain ⟨a0, a1, a2⟩ := hX.on9 hbw
      obtain ⟨b0, b1, b2⟩ := hY.on9 hbw
      have hE := neq_cnt_same l[k]
      have hi0 : (0 : Int) ≤ (k : Int) := by omega
      have hi1 : (k : Int) < (n : Int) := by omega
      clear hX hY
      generalize l[k] = x at *
      go_wp2
      go_region
      all_goals
        go_wp2
        go_roundw
        case rel => exact ⟨k + 1, by omega, by go_num, hbw.drew⟩
        case measure => simp [intOf]; omega
    · go_wp2
      go_ret
      exact ⟨rfl, hbw⟩

end Go.Proofs.Ytjbbhfkbhpagbaa.O
/- The walks of bag's adds, Adds and Has. -/
namespace Go.Proofs.Ytjbbhfkbhpagbaa.O
open Go.RowKit

theorem adds_any (v vp : Value) (xs : List IE) (p : List (List UInt8)) (w : World) (hv : itsE w v xs) (hp : U.strsAt w vp p) (hn : xs.length ≤ 1000000) (hs : ShortI xs) :
    Calls Try.prog 25 #[v, vp] w fun e w' => ∃ r, e = .returned r ∧ itsE w' r (xs.filter fun x => isAt p 2 x.1) ∧ Below w.heap.size w w' := by
  have HC := at_any v vp xs p 2 w hv hp hn hs
  clear hv hp hs
  go_enter Try.func25, Try.ntmps25
  go_wp2_with (go_at_call 42; refine HC.mono ?_; rintro e w1 ⟨r, rfl, hr, hb1⟩)
  go_ret
  exact ⟨_, rfl, hr, hb1⟩

/-- Which items of a list add a value. -/
def addE (x : Rg.Va) (ys : List IE) : List U := (ys.filter fun y => decide (Rg.valOf y.1 = x)).map fun y => y.1.x
theorem addE_yes {x : Rg.Va} {ys : List IE} {k : Nat} (hk : k < ys.length) (h : Rg.valOf ys[k].1 = x) : addE x (ys.take (k + 1)) = addE x (ys.take k) ++ [ys[k].1.x] := by
  unfold addE
  rw [List.take_succ_eq_append_getElem hk, List.filter_append, List.map_append, List.filter_cons, if_pos (decide_eq_true h)]
  rfl
theorem addE_no {x : Rg.Va} {ys : List IE} {k : Nat} (hk : k < ys.length) (h : Rg.valOf ys[k].1 ≠ x) : addE x (ys.take (k + 1)) = addE x (ys.take k) := by
  unfold addE
  rw [List.take_succ_eq_append_getElem hk, List.filter_append, List.map_append, List.filter_cons, if_neg (fun q => h (of_decide_eq_true q))]
  exact List.append_nil _
theorem addE_len (x : Rg.Va) (ys : List IE) : (addE x ys).length ≤ ys.length := by
  unfold addE
  rw [List.length_map]
  exact List.length_filter_le _ _
theorem addE_take (x : Rg.Va) (ys : List IE) (k : Nat) : (addE x (ys.take k)).length ≤ ys.length := Nat.le_trans (addE_len x _) (by rw [List.length_take]; omega)

set_option maxRecDepth 20000 in
set_option maxHeartbeats 2000000 in
theorem bagAdds_any (v vp : Value) (xs : List IE) (p : List (List UInt8)) (x : Rg.Va) (w : World) (hv : itsE w v xs) (hp : U.strsAt w vp p) (hn : xs.length ≤ 1000000) (hs : ShortI xs) :
    Calls Try.prog 14 #[v, vp, vV x] w fun e w' => ∃ r, e = .returned r ∧ refsIn w' r (addE x (xs.filter fun y => isAt p 2 y.1)) ∧ Below w.heap.size w w' := by
  obtain ⟨W0, hW0⟩ : ∃ W0, W0 = w.alloc (vO x) := ⟨_, rfl⟩
  have B0 : Below w.heap.size w W0 := by rw [hW0]; exact below_new _ _
  have V0 : VAt W0 w.heap.size x.1 x.2.1 x.2.2 := by rw [hW0]; exact VAt.new w _ _ _
  have HC := adds_any v vp xs p W0 (hv.on B0) (U.strsAt_below hp B0 (Nat.le_refl _)) hn hs
  have hn1 : (xs.filter fun y => isAt p 2 y.1).length ≤ 1000000 := Nat.le_trans (List.length_filter_le _ _) hn
  clear hv hp hs hn
  generalize (xs.filter fun y => isAt p 2 y.1) = ys at *
  go_enter Try.func14, Try.ntmps14
  go_wp2_with (go_at_call 25; rw [← hW0]; refine HC.mono ?_; rintro e w1 ⟨r, rfl, hr, hb1⟩; obtain ⟨ao, cap, rfl⟩ := hr.slice; have HV : Hid (itsE w1 (.slice ao ys.length cap) ys) := hr; obtain ⟨n, hn0⟩ : ∃ n, n = ys.length := ⟨_, rfl⟩; have HN : Hid (n = ys.length) := hn0; rw [← hn0] at HV hn1 ⊢; clear hr hn0)
  have V1 := V0.on hb1
  clear V0 hW0 HC
  go_loopw [7, 9, 14] (fun out _ i wr => ∃ (k : Nat) (acc : List U), k ≤ n ∧ i = .int .i64 k ∧ Hid (acc = addE x (ys.take k)) ∧ wr.ownsRow w1.heap.size 51 3 out acc.length (ucells acc) ∧ Below w1.heap.size w1 wr) (fun _ _ i _ => n - (intOf i).toNat)
  case atStart => exact ⟨0, [], by omega, rfl, rfl, World.ownsRow_nil _ _ _ _, Below.refl _ _⟩
  case round =>
    obtain ⟨k, acc, hk, rfl, HA, hown, hbw⟩ := hrel
    by_cases hkn : k < n
    · have hkx : k < ys.length := by rw [← HN.out]; exact hkn
      obtain ⟨ad, rfl, -, hX, hXi⟩ := (HV.out.on hbw).get hkx
      have hroom : acc.length + 1 ≤ 1000001 := by
        have h2 := congrArg List.length HA.out
        have h3 := addE_take x ys k
        have h4 := HN.out
        omega
      by_cases he : Rg.valOf ys[k].1 = x
      · have HS : Hid (acc ++ [ys[k].1.x] = addE x (ys.take (k + 1))) := by
          have h : acc ++ [ys[k].1.x] = addE x (ys.take (k + 1)) := by rw [addE_yes hkx he, HA.out]
          exact h
        have hE : ∀ w, (binOp .eql 26 (.agg #[.int .i64 ys[k].1.o.vk, .int .i64 ys[k].1.o.vn, .string ⟨ys[k].1.o.vs.toArray⟩]) (.agg #[.int .i64 x.1, .int .i64 x.2.1, .string ⟨x.2.2.toArray⟩])).run Try.prog w = .ok (.bool true) w := fun w => by
          have h := eql_va (Rg.valOf ys[k].1) x w
          rw [decide_eq_true he] at h
          exact h
        clear he
        generalize ys[k] = y at *
        obtain ⟨it, pv, sv⟩ := y
        obtain ⟨pa, pn, pc, rfl⟩ := strs_slice hXi.1
        obtain ⟨sa, sn, sc, rfl⟩ := refs_slice hXi.2
        obtain ⟨c0, c1, c2, c3, c4, c5, c6, c7, c8, c9, c10⟩ := hX
        obtain ⟨b0, b1, b2, -, -, -⟩ := V1.on (bchain hbw (below_new wr (.cells #[.int .i64 it.x.1.1, .int .i64 it.x.1.2, .int .i64 it.x.2, .int .i64 it.o.k, .slice pa pn pc, .int .i64 it.o.vk, .int .i64 it.o.vn, .string ⟨it.o.vs.toArray⟩, .int .i64 it.o.n, .slice sa sn sc, .int .i64 it.t] 64)))
        have bA := below_new2 wr (.cells (icell (it, .slice pa pn pc, .slice sa sn sc)).toArray 64) (uO it.x)
        have e1 : (wr.alloc (.cells (icell (it, .slice pa pn pc, .slice sa sn sc)).toArray 64)).heap.size = wr.heap.size + 1 := by simp
        have hnew := new_row (wr.alloc (.cells (icell (it, .slice pa pn pc, .slice sa sn sc)).toArray 64)) it.x
        rw [e1] at hnew
        have hown1 := own_on hown bA
        have hbw1 := bchain hbw bA
        clear HA hXi
        go_wp2_with (first
          | (at_builtin; refine append_ref rfl _ _ rfl w1.heap.size hbw1.size _ acc rfl hown1 _ it.x rfl hnew hroom ?_; intro v2 w3 hown2 hg2)
          | go_in)
        go_roundw
        case rel => exact ⟨k + 1, acc ++ [it.x], by omega, by go_num, HS, hown2, hbw1.grown hg2 hbw1.size (fun g e => (hown1.lt g e).1)⟩
        case measure => simp [intOf]; omega
      · have HS : Hid (acc = addE x (ys.take (k + 1))) := by
          have h : acc = addE x (ys.take (k + 1)) := by rw [addE_no hkx he]; exact HA.out
          exact h
        have hE : ∀ w, (binOp .eql 26 (.agg #[.int .i64 ys[k].1.o.vk, .int .i64 ys[k].1.o.vn, .string ⟨ys[k].1.o.vs.toArray⟩]) (.agg #[.int .i64 x.1, .int .i64 x.2.1, .string ⟨x.2.2.toArray⟩])).run Try.prog w = .ok (.bool false) w := fun w => by
          have h := eql_va (Rg.valOf ys[k].1) x w
          rw [decide_eq_false he] at h
          exact h
        clear he
        generalize ys[k] = y at *
        obtain ⟨it, pv, sv⟩ := y
        obtain ⟨pa, pn, pc, rfl⟩ := strs_slice hXi.1
        obtain ⟨sa, sn, sc, rfl⟩ := refs_slice hXi.2
        obtain ⟨c0, c1, c2, c3, c4, c5, c6, c7, c8, c9, c10⟩ := hX
        obtain ⟨b0, b1, b2, -, -, -⟩ := V1.on (bchain hbw (below_new wr (.cells #[.int .i64 it.x.1.1, .int .i64 it.x.1.2, .int .i64 it.x.2, .int .i64 it.o.k, .slice pa pn pc, .int .i64 it.o.vk, .int .i64 it.o.vn, .string ⟨it.o.vs.toArray⟩, .int .i64 it.o.n, .slice sa sn sc, .int .i64 it.t] 64)))
        have bA := below_new wr (.cells (icell (it, .slice pa pn pc, .slice sa sn sc)).toArray 64)
        clear HA hXi
        go_wp2
        go_roundw
        case rel => exact ⟨k + 1, acc, by omega, by go_num, HS, own_on hown bA, bchain hbw bA⟩
        case measure => simp [intOf]; omega
    · have HE : Hid (acc = addE x ys) := by
        have h := HA.out
        rw [List.take_of_length_le (by rw [← HN.out]; omega)] at h
        exact h
      go_wp2
      go_ret
      exact ⟨_, rfl, by rw [← HE.out]; exact refsIn_own hown, bchain B0 (bchain hb1 hbw)⟩

set_option maxRecDepth 20000 in
set_option maxHeartbeats 2000000 in
theorem bagHas_any (v vp : Value) (xs : List IE) (p : List (List UInt8)) (x : Rg.Va) (w : World) (hv : itsE w v xs) (hp : U.strsAt w vp p) (hn : xs.length ≤ 1000000) (hs : ShortI xs) :
    Calls Try.prog 15 #[v, vp, vV x] w fun e w' => e = .returned (.bool (decide (0 < (addE x (xs.filter fun y => isAt p 2 y.1)).length))) ∧ Below w.heap.size w w' := by
  obtain ⟨W0, hW0⟩ : ∃ W0, W0 = w.alloc (vO x) := ⟨_, rfl⟩
  have B0 : Below w.heap.size w W0 := by rw [hW0]; exact below_new _ _
  have HC := bagAdds_any v vp xs p x W0 (hv.on B0) (U.strsAt_below hp B0 (Nat.le_refl _)) hn hs
  clear hv hp hs hn
  generalize addE x (xs.filter fun y => isAt p 2 y.1) = us at *
  go_enter Try.func15, Try.ntmps15
  go_wp2_with (go_at_call 14; rw [← hW0]; refine HC.mono ?_; rintro e w1 ⟨r, rfl, hr, hb1⟩; obtain ⟨ao, cap, rfl, _, _, _⟩ := id hr)
  go_ret
  exact ⟨ret_bool (decide_eq_decide.2 ⟨fun h => by omega, fun h => by omega⟩), bchain B0 hb1⟩
end Go.Proofs.Ytjbbhfkbhpagbaa.O
/- The walk of the document's Adds. -/
namespace Go.Proofs.Ytjbbhfkbhpagbaa.O
open Go.RowKit

set_option maxRecDepth 20000 in
set_option maxHeartbeats 4000000 in
theorem refAdds_any (v vp : Value) (xs : List IE) (p : List (List UInt8)) (x : Rg.Va) (w : World) (hv : itsE w v xs) (hp : U.strsAt w vp p) (hn : xs.length ≤ 1000000) (hpn : p.length ≤ 2000000) (hs : ShortI xs) :
    Calls Try.prog 9 #[v, vp, vV x] w fun e w' => ∃ r, e = .returned r ∧ refsIn w' r (addE x (xs.filter fun y => isAt p 2 y.1)) ∧ Below w.heap.size w w' := by
  obtain ⟨W0, hW0⟩ : ∃ W0, W0 = w.alloc (vO x) := ⟨_, rfl⟩
  have B0 : Below w.heap.size w W0 := by rw [hW0]; exact below_new _ _
  have V0 : VAt W0 w.heap.size x.1 x.2.1 x.2.2 := by rw [hW0]; exact VAt.new w _ _ _
  have HC := refAt_any v vp xs p 2 W0 (hv.on B0) (U.strsAt_below hp B0 (Nat.le_refl _)) hn hpn hs
  have hn1 : (xs.filter fun y => isAt p 2 y.1).length ≤ 1000000 := Nat.le_trans (List.length_filter_le _ _) hn
  clear hv hp hs hn
  generalize (xs.filter fun y => isAt p 2 y.1) = ys at *
  go_enter Try.func9, Try.ntmps9
  go_wp2_with (go_at_call 24; rw [← hW0]; refine HC.mono ?_; rintro e w1 ⟨r, rfl, hr, hb1⟩; obtain ⟨ao, cap, rfl⟩ := hr.slice; have HV : Hid (itsE w1 (.slice ao ys.length cap) ys) := hr; obtain ⟨n, hn0⟩ : ∃ n, n = ys.length := ⟨_, rfl⟩; have HN : Hid (n = ys.length) := hn0; rw [← hn0] at HV hn1 ⊢; clear hr hn0)
  have V1 := V0.on hb1
  clear V0 hW0 HC
  go_loopw [7, 9] (fun out i wr => ∃ (k : Nat) (acc : List U), k ≤ n ∧ i = .int .i64 k ∧ Hid (acc = addE x (ys.take k)) ∧ wr.ownsRow w1.heap.size 51 3 out acc.length (ucells acc) ∧ Below w1.heap.size w1 wr) (fun _ i _ => n - (intOf i).toNat)
  case atStart => exact ⟨0, [], by omega, rfl, rfl, World.ownsRow_nil _ _ _ _, Below.refl _ _⟩
  case round =>
    obtain ⟨k, acc, hk, rfl, HA, hown, hbw⟩ := hrel
    obtain ⟨b0, b1, b2, -, -, -⟩ := V1.on hbw
    by_cases hkn : k < n
    · have hkx : k < ys.length := by rw [← HN.out]; exact hkn
      obtain ⟨ad, rfl, -, hX, hXi⟩ := (HV.out.on hbw).get hkx
      have hroom : acc.length + 1 ≤ 1000001 := by
        have h2 := congrArg List.length HA.out
        have h3 := addE_take x ys k
        have h4 := HN.out
        omega
      have hi0 : (0 : Int) ≤ (k : Int) := by omega
      have hi1 : (k : Int) < (n : Int) := by omega
      by_cases he : Rg.valOf ys[k].1 = x
      · have HS : Hid (acc ++ [ys[k].1.x] = addE x (ys.take (k + 1))) := by
          have h : acc ++ [ys[k].1.x] = addE x (ys.take (k + 1)) := by rw [addE_yes hkx he, HA.out]
          exact h
        have hE : ∀ w, (binOp .eql 26 (.agg #[.int .i64 ys[k].1.o.vk, .int .i64 ys[k].1.o.vn, .string ⟨ys[k].1.o.vs.toArray⟩]) (.agg #[.int .i64 x.1, .int .i64 x.2.1, .string ⟨x.2.2.toArray⟩])).run Try.prog w = .ok (.bool true) w := fun w => by
          have h := eql_va (Rg.valOf ys[k].1) x w
          rw [decide_eq_true he] at h
          exact h
        clear he
        generalize ys[k] = y at *
        obtain ⟨it, pv, sv⟩ := y
        obtain ⟨pa, pn, pc, rfl⟩ := strs_slice hXi.1
        obtain ⟨sa, sn, sc, rfl⟩ := refs_slice hXi.2
        obtain ⟨c0, c1, c2, c3, c4, c5, c6, c7, c8, c9, c10⟩ := hX
        have bA : Below wr.heap.size wr (wr.drew.alloc (uO it.x)) := bchain (Below.refl _ wr).drew (below_new _ _)
        have hnew := new_row wr.drew it.x
        have hown1 := own_on hown bA
        have hbw1 := bchain hbw bA
        clear HA hXi
        go_wp2
        go_region
        all_goals
          go_wp2_with (first
            | (at_builtin; refine append_ref rfl _ _ rfl w1.heap.size hbw1.size _ acc rfl hown1 _ it.x rfl hnew hroom ?_; intro v2 w3 hown2 hg2)
            | go_in)
          go_roundw
          case rel => exact ⟨k + 1, acc ++ [it.x], by omega, by go_num, HS, hown2, hbw1.grown hg2 hbw1.size (fun g e => (hown1.lt g e).1)⟩
          case measure => simp [intOf]; omega
      · have HS : Hid (acc = addE x (ys.take (k + 1))) := by
          have h : acc = addE x (ys.take (k + 1)) := by rw [addE_no hkx he]; exact HA.out
          exact h
        have hE : ∀ w, (binOp .eql 26 (.agg #[.int .i64 ys[k].1.o.vk, .int .i64 ys[k].1.o.vn, .string ⟨ys[k].1.o.vs.toArray⟩]) (.agg #[.int .i64 x.1, .int .i64 x.2.1, .string ⟨x.2.2.toArray⟩])).run Try.prog w = .ok (.bool false) w := fun w => by
          have h := eql_va (Rg.valOf ys[k].1) x w
          rw [decide_eq_false he] at h
          exact h
        clear he
        generalize ys[k] = y at *
        obtain ⟨it, pv, sv⟩ := y
        obtain ⟨c0, c1, c2, c3, c4, c5, c6, c7, c8, c9, c10⟩ := hX
        have bA : Below wr.heap.size wr wr.drew := (Below.refl _ wr).drew
        clear HA hXi
        go_wp2
        go_region
        all_goals
          go_wp2
          go_roundw
          case rel => exact ⟨k + 1, acc, by omega, by go_num, HS, own_on hown bA, bchain hbw bA⟩
          case measure => simp [intOf]; omega
    · have HE : Hid (acc = addE x ys) := by
        have h := HA.out
        rw [List.take_of_length_le (by rw [← HN.out]; omega)] at h
        exact h
      go_wp2
      go_ret
      exact ⟨_, rfl, by rw [← HE.out]; exact refsIn_own hown, bchain B0 (bchain hb1 hbw)⟩
end Go.Proofs.Ytjbbhfkbhpagbaa.O
