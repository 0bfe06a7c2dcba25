/- The walks of both Refs, of the document's SameRefs and of the statement's has. -/
import Derived.Test.YtbeinicbkbkbpaaAtR
namespace Go.Proofs.Ytbeinicbkbkbpaa.O
open Go.RowKit

/-- One reference is appended to a row that the call owns. -/
theorem append_ref {ops : Array Oper} {rest : List Oper} {o : Oper} {a : Act} {w : World} {Q : Exit → Act → World → Prop} (hgd : o.guard = none) (s x : Operand)
    (ho : o.op = .call { callee := .builtin .append, args := #[s, x], argTypes := #[38, 38] }) (B : Nat) (hB : B ≤ w.heap.size) (r : Value) (acc : List U) (hs : a.eval s = r) (hown : w.ownsRow B 50 3 r acc.length (ucells acc))
    (g : Nat) (y : U) (hx : a.eval x = .slice (some ⟨g, 0, none⟩) 1 1) (hv : ∀ j v, (ucells [y])[j]? = some v → w.cell? ((⟨g, 0, none⟩ : Addr).add j) = some v) (hn : acc.length + 1 ≤ 1000001)
    (h : ∀ r' w', w'.ownsRow B 50 3 r' (acc ++ [y]).length (ucells (acc ++ [y])) → w.grownBy w' r.ownBlock → wpList Try.prog ops Q rest (a.put o.dst r') w') : wpList Try.prog ops Q (o :: rest) a w := by
  obtain ⟨i0, hi, hz, hz1, hz2⟩ := info31
  refine wpList_append_own w hgd s x 38 ho B 50 i0 _ 3 24 Try.underlying38 hi hz hz1 hz2 rfl (by decide) r _ _ hs hown ⟨g, 0, none⟩ 1 1 (ucells [y]) hx (ucells_length [y]) hv (ucells_one [y]) (by unfold maxLen; omega) (by omega) hB ?_
  intro v' w1 hown' hg _
  exact h v' w1 (own_snoc hown') hg
theorem xs_step {xs : List IE} {k : Nat} (hk : k < xs.length) : (xs.take (k + 1)).map (fun x => x.1.x) = (xs.take k).map (fun x => x.1.x) ++ [xs[k].1.x] := by
  rw [List.take_succ_eq_append_getElem hk, List.map_append]
  rfl

set_option maxRecDepth 20000 in
set_option maxHeartbeats 2000000 in
theorem liveRefs_any (v : Value) (xs : List IE) (w : World) (hv : itsE w v xs) (hn : xs.length ≤ 1000000) :
    Calls Try.prog 19 #[v] w fun e w' => ∃ r, e = .returned r ∧ refsIn w' r (xs.map fun x => x.1.x) ∧ Below w.heap.size w w' := by
  obtain ⟨ao, cap, rfl⟩ := hv.slice
  obtain ⟨i0, hi0, hz0, hz1, hz2⟩ := info31
  obtain ⟨n, hn0⟩ : ∃ n, n = xs.length := ⟨_, rfl⟩
  have HN : Hid (n = xs.length) := hn0
  rw [← hn0] at hv hn ⊢
  have HV : Hid (itsE w (.slice ao n cap) xs) := hv
  clear hn0 hv
  go_enter Try.func19, Try.ntmps19
  go_wp2_with (at_make; go_loud (refine wpList_make_own _ rfl _ _ 38 rfl w.heap.size 50 i0 _ 3 Try.underlying38 hi0 hz0 hz1 _ _ _ n rfl rfl rfl (by rw [hz2]; omega) (by unfold maxLen; omega) (Nat.le_refl _) ?_); intro w1 hown hgrow)
  have hb1 : Below w.heap.size w w1 := (Below.refl _ w).grown hgrow (Nat.le_refl _) (fun g hg => by cases hg)
  go_loopw [3, 5, 11] (fun out _ i wr => ∃ (k : Nat) (acc : List U), k ≤ n ∧ i = .int .i64 k ∧ Hid (acc = (xs.take k).map fun x => x.1.x) ∧ wr.ownsRow w.heap.size 50 3 out acc.length (ucells acc) ∧ Below w.heap.size w wr) (fun _ _ i _ => n - (intOf i).toNat)
  case atStart => exact ⟨0, [], by omega, rfl, rfl, hown, hb1⟩
  case round =>
    clear hown hb1 hgrow
    obtain ⟨k, acc, hk, rfl, HA, hown, hbw⟩ := hrel
    by_cases hkn : k < n
    · have hkx : k < xs.length := by rw [← HN.out]; exact hkn
      obtain ⟨ad, rfl, -, hX, hXi⟩ := (HV.out.on hbw).get hkx
      have HS : Hid (acc ++ [xs[k].1.x] = (xs.take (k + 1)).map fun x => x.1.x) := by
        have h : acc ++ [xs[k].1.x] = (xs.take (k + 1)).map fun x => x.1.x := by rw [xs_step hkx, HA.out]
        exact h
      have hroom : acc.length + 1 ≤ 1000001 := by
        have h2 := congrArg List.length HA.out
        rw [List.length_map, List.length_take] at h2
        omega
      generalize xs[k] = x at *
      obtain ⟨it, pv, sv⟩ := x
      obtain ⟨pa, pn, pc, rfl⟩ := strs_slice hXi.1
      obtain ⟨sa, sn, sc, rfl⟩ := refs_slice hXi.2
      obtain ⟨c0, c1, c2, c3, c4, c5, c6, c7, c8, c9, c10⟩ := hX
      have bA := below_new2 wr (.cells (icell (it, .slice pa pn pc, .slice sa sn sc)).toArray 56) (uO it.x)
      have e1 : (wr.alloc (.cells (icell (it, .slice pa pn pc, .slice sa sn sc)).toArray 56)).heap.size = wr.heap.size + 1 := by simp
      have hnew := new_row (wr.alloc (.cells (icell (it, .slice pa pn pc, .slice sa sn sc)).toArray 56)) it.x
      rw [e1] at hnew
      have hown1 := own_on hown bA
      have hbw1 := bchain hbw bA
      clear HA hXi
      go_wp2_with (first
        | (at_builtin; refine append_ref rfl _ _ rfl w.heap.size hbw1.size _ acc rfl hown1 _ it.x rfl hnew hroom ?_; intro v2 w3 hown2 hg2)
        | go_in)
      go_roundw
      case rel => exact ⟨k + 1, acc ++ [it.x], by omega, by go_num, HS, hown2, hbw1.grown hg2 hbw1.size (fun g e => (hown1.lt g e).1)⟩
      case measure => simp [intOf]; omega
    · have HE : Hid (acc = xs.map fun x => x.1.x) := by
        have h := HA.out
        rw [List.take_of_length_le (by rw [← HN.out]; omega)] at h
        exact h
      go_wp2
      go_ret
      exact ⟨_, rfl, by rw [← HE.out]; exact refsIn_own hown, hbw⟩

set_option maxRecDepth 20000 in
set_option maxHeartbeats 2000000 in
theorem refRefsL_any (v : Value) (xs : List IE) (w : World) (hv : itsE w v xs) (hn : xs.length ≤ 1000000) :
    Calls Try.prog 20 #[v] w fun e w' => ∃ r, e = .returned r ∧ refsIn w' r (xs.map fun x => x.1.x) ∧ Below w.heap.size w w' := by
  obtain ⟨ao, cap, rfl⟩ := hv.slice
  obtain ⟨n, hn0⟩ : ∃ n, n = xs.length := ⟨_, rfl⟩
  have HN : Hid (n = xs.length) := hn0
  rw [← hn0] at hv hn ⊢
  have HV : Hid (itsE w (.slice ao n cap) xs) := hv
  clear hn0 hv
  go_enter Try.func20, Try.ntmps20
  go_wp2
  go_loopw [3, 4] (fun out i wr => ∃ (k : Nat) (acc : List U), k ≤ n ∧ i = .int .i64 k ∧ Hid (acc = (xs.take k).map fun x => x.1.x) ∧ wr.ownsRow w.heap.size 50 3 out acc.length (ucells acc) ∧ Below w.heap.size w wr) (fun _ i _ => n - (intOf i).toNat)
  case atStart => exact ⟨0, [], by omega, rfl, rfl, World.ownsRow_nil _ _ _ _, Below.refl _ _⟩
  case round =>
    obtain ⟨k, acc, hk, rfl, HA, hown, hbw⟩ := hrel
    by_cases hkn : k < n
    · have hkx : k < xs.length := by rw [← HN.out]; exact hkn
      obtain ⟨ad, rfl, -, hX, hXi⟩ := (HV.out.on hbw).get hkx
      have HS : Hid (acc ++ [xs[k].1.x] = (xs.take (k + 1)).map fun x => x.1.x) := by
        have h : acc ++ [xs[k].1.x] = (xs.take (k + 1)).map fun x => x.1.x := by rw [xs_step hkx, HA.out]
        exact h
      have hroom : acc.length + 1 ≤ 1000001 := by
        have h2 := congrArg List.length HA.out
        rw [List.length_map, List.length_take] at h2
        omega
      generalize xs[k] = x at *
      obtain ⟨it, pv, sv⟩ := x
      obtain ⟨c0, c1, c2, c3, c4, c5, c6, c7, c8, c9, c10⟩ := hX
      have bA := below_new wr (uO it.x)
      have hnew := new_row wr it.x
      have hown1 := own_on hown bA
      have hbw1 := bchain hbw bA
      clear HA hXi
      go_wp2_with (first
        | (at_builtin; refine append_ref rfl _ _ rfl w.heap.size hbw1.size _ acc rfl hown1 _ it.x rfl hnew hroom ?_; intro v2 w3 hown2 hg2)
        | go_in)
      go_roundw
      case rel => exact ⟨k + 1, acc ++ [it.x], by omega, by go_num, HS, hown2, hbw1.grown hg2 hbw1.size (fun g e => (hown1.lt g e).1)⟩
      case measure => simp [intOf]; omega
    · have HE : Hid (acc = xs.map fun x => x.1.x) := by
        have h := HA.out
        rw [List.take_of_length_le (by rw [← HN.out]; omega)] at h
        exact h
      go_wp2
      go_ret
      exact ⟨_, rfl, by rw [← HE.out]; exact refsIn_own hown, hbw⟩

set_option maxRecDepth 20000 in
set_option maxHeartbeats 2000000 in
theorem sameRefs_any (va vb : Value) (l : List U) (w : World) (ha : refsIn w va l) (hb : refsIn w vb l) (hn : l.length ≤ 1000000) :
    Calls Try.prog 18 #[va, vb] w fun e w' => e = .returned (.bool true) ∧ Below w.heap.size w w' := by
  obtain ⟨ao, cx, rfl, _, _, _⟩ := id ha
  obtain ⟨bo, cy, rfl, _, _, _⟩ := id hb
  obtain ⟨n, hn0⟩ : ∃ n, n = l.length := ⟨_, rfl⟩
  have HN : Hid (n = l.length) := hn0
  rw [← hn0] at ha hb hn ⊢
  have HA : Hid (refsIn w (.slice ao n cx) l) := ha
  have HB : Hid (refsIn w (.slice bo n cy) l) := hb
  clear hn0 ha hb
  go_enter Try.func18, Try.ntmps18
  go_wp2
  go_loopw [5] (fun i wr => ∃ k : Nat, k ≤ n ∧ i = .int .i64 k ∧ Below w.heap.size w wr) (fun i _ => n - (intOf i).toNat)
  case atStart => exact ⟨0, by omega, rfl, Below.refl _ _⟩
  case round =>
    obtain ⟨k, hk, rfl, hbw⟩ := hrel
    by_cases hkn : k < n
    · have hkx : k < l.length := by rw [← HN.out]; exact hkn
      obtain ⟨ax, rfl, hX⟩ := HA.out.get hkx
      obtain ⟨ay, rfl, hY⟩ := HB.out.get hkx
      obtain ⟨a0, a1, a2⟩ := hX.on9 hbw
      obtain ⟨b0, b1, b2⟩ := hY.on9 hbw
      have hE := neq_cnt_same l[k]
      have hi0 : (0 : Int) ≤ (k : Int) := by omega
      have hi1 : (k : Int) < (n : Int) := by omega
      clear hX hY
      generalize l[k] = x at *
      go_wp2
      go_region
      all_goals
        go_wp2
        go_roundw
        case rel => exact ⟨k + 1, by omega, by go_num, hbw.drew⟩
        case measure => simp [intOf]; omega
    · go_wp2
      go_ret
      exact ⟨rfl, hbw⟩

/-- None of the first ones is it. -/
def hasTo (xs : List IE) (x : U) (k : Nat) : Prop := ¬ x ∈ (xs.take k).map fun y => y.1.x
theorem hasTo_zero (xs : List IE) (x : U) : hasTo xs x 0 := by simp [hasTo]
theorem hasTo_step {xs : List IE} {x : U} {k : Nat} (h : hasTo xs x k) (hk : k < xs.length) (he : ¬ xs[k].1.x = x) : hasTo xs x (k + 1) := by
  unfold hasTo at *
  rw [xs_step hk, List.mem_append, List.mem_singleton]
  rintro (q | q)
  · exact h q
  · exact he q.symm
set_option maxRecDepth 20000 in
set_option maxHeartbeats 2000000 in
theorem has_any (v : Value) (xs : List IE) (x : U) (w : World) (hv : itsE w v xs) (hn : xs.length ≤ 1000000) :
    Calls Try.prog 27 #[v, uV x] w fun e w' => e = .returned (.bool (decide (x ∈ xs.map fun y => y.1.x))) ∧ Below w.heap.size w w' := by
  obtain ⟨ao, cap, rfl⟩ := hv.slice
  obtain ⟨n, hn0⟩ : ∃ n, n = xs.length := ⟨_, rfl⟩
  have HN : Hid (n = xs.length) := hn0
  rw [← hn0] at hv hn ⊢
  have HV : Hid (itsE w (.slice ao n cap) xs) := hv
  have HZ : Hid (hasTo xs x 0) := by have h := hasTo_zero xs x; exact h
  clear hn0 hv
  obtain ⟨W0, hW0⟩ : ∃ W0, W0 = w.alloc (uO x) := ⟨_, rfl⟩
  have B0 : Below w.heap.size w W0 := by rw [hW0]; exact below_new _ _
  have X0 : CAt W0 ⟨w.heap.size, 0, none⟩ x := by rw [hW0]; exact CAt.new w x
  go_enter Try.func27, Try.ntmps27
  go_wp2
  rw [← hW0]
  clear hW0
  go_loopw [5] (fun i wr => ∃ k : Nat, k ≤ n ∧ i = .int .i64 k ∧ Hid (hasTo xs x k) ∧ Below W0.heap.size W0 wr) (fun i _ => n - (intOf i).toNat)
  case atStart => exact ⟨0, by omega, rfl, HZ, Below.refl _ _⟩
  case round =>
    clear HZ
    obtain ⟨k, hk, rfl, HS, hbw⟩ := hrel
    obtain ⟨x0, x1, x2⟩ := X0.on9 hbw
    by_cases hkn : k < n
    · have hkx : k < xs.length := by rw [← HN.out]; exact hkn
      obtain ⟨ad, rfl, -, hX, -⟩ := (HV.out.on (bchain B0 hbw)).get hkx
      obtain ⟨c0, c1, c2, -, -, -, -, -, -, -, -⟩ := hX
      have hi0 : (0 : Int) ≤ (k : Int) := by omega
      have hi1 : (k : Int) < (n : Int) := by omega
      have hE := eql_cnt xs[k].1.x x
      by_cases he : xs[k].1.x = x
      · have HL : Hid (decide (x ∈ xs.map fun y => y.1.x) = true) := by
          have h : decide (x ∈ xs.map fun y => y.1.x) = true := decide_eq_true (List.mem_map.2 ⟨_, List.getElem_mem hkx, he⟩)
          exact h
        simp only [he, decide_true] at hE
        rw [he] at c0 c1 c2
        clear HS he
        go_wp2
        go_region
        all_goals
          go_wp2
          go_ret
          exact ⟨ret_bool HL.out.symm, bchain B0 hbw.drew⟩
      · have HS' : Hid (hasTo xs x (k + 1)) := by have h := hasTo_step HS.out hkx he; exact h
        simp only [he, decide_false] at hE
        clear HS he
        generalize xs[k].1.x = y at *
        go_wp2
        go_region
        all_goals
          go_wp2
          go_roundw
          case rel => exact ⟨k + 1, by omega, by go_num, HS', hbw.drew⟩
          case measure => simp [intOf]; omega
    · have HL : Hid (decide (x ∈ xs.map fun y => y.1.x) = false) := by
        have h := HS.out
        unfold hasTo at h
        rw [List.take_of_length_le (by rw [← HN.out]; omega)] at h
        have h2 := decide_eq_false h
        exact h2
      go_wp2
      go_ret
      exact ⟨ret_bool HL.out.symm, bchain B0 hbw⟩
end Go.Proofs.Ytbeinicbkbkbpaa.O
