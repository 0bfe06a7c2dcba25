/- The walk of slices.EqualFunc over items that are the same, and of live's Same. -/
import Derived.Test.YtbeinicbkbkbpaaSames
namespace Go.Proofs.Ytbeinicbkbkbpaa.O
open Go.RowKit

theorem store_newB {P : Program} {ops : Array Oper} {rest : List Oper} {o : Oper} {a : Act} {w : World} {Q : Exit → Act → World → Prop} (hgd : o.guard = none) (ty : TypeId) (x y : Operand) (ho : o.op = .store ty x y) (b : Nat) (hb : w.heap.size = b) (z : Array Value) (cs : List Value) (hx : a.eval x = .pointer (some ⟨b, 0, none⟩)) (hy : a.eval y = .agg cs.toArray)
    (hi : (P.info? ty).map (·.size) = some cs.length) (hz : z.size = cs.length) (h1 : ∀ v ∈ cs, v.oneCell' = true) (h : wpList P ops Q rest (a.put o.dst undef) (w.alloc (.cells cs.toArray ty))) : wpList P ops Q (o :: rest) a (w.alloc (.cells z ty)) := by
  subst hb
  exact store_new hgd ty x y ho z cs hx hy hi hz h1 h

set_option maxRecDepth 20000 in
set_option maxHeartbeats 2000000 in
theorem equalF_any (va vb : Value) (xs ys : List IE) (w : World) (ha : itsE w va xs) (hb : itsE w vb ys) (hn : xs.length ≤ 1000000) (hs : ShortI xs) (he : xs.map (·.1) = ys.map (·.1)) :
    Calls Try.prog 48 #[va, vb, .func (.func 49) #[] #[]] w fun e w' => e = .returned (.bool true) ∧ Below w.heap.size w w' := by
  obtain ⟨ao, cx, rfl⟩ := ha.slice
  obtain ⟨bo, cy, rfl⟩ := hb.slice
  have hl : ys.length = xs.length := by have h := congrArg List.length he; rw [List.length_map, List.length_map] at h; exact h.symm
  obtain ⟨n, hn0⟩ : ∃ n, n = xs.length := ⟨_, rfl⟩
  have HN : Hid (n = xs.length) := hn0
  rw [hl] at hb ⊢
  rw [← hn0] at ha hb hn ⊢
  have HA : Hid (itsE w (.slice ao n cx) xs) := ha
  have HB : Hid (itsE w (.slice bo n cy) ys) := hb
  have HL : Hid (ys.length = xs.length) := hl
  have HE : Hid (xs.map (·.1) = ys.map (·.1)) := he
  have HS : Hid (ShortI xs) := hs
  clear hn0 ha hb hl he hs
  go_enter Try.func48, Try.ntmps48
  go_wp2
  go_loopw [7, 8, 9, 17] (fun _ _ _ i wr => ∃ k : Nat, k ≤ n ∧ i = .int .i64 k ∧ Below w.heap.size w wr) (fun _ _ _ i _ => n - (intOf i).toNat)
  case atStart => exact ⟨0, by omega, rfl, Below.refl _ _⟩
  case round =>
    obtain ⟨k, hk, rfl, hbw⟩ := hrel
    by_cases hkn : k < n
    · have hkx : k < xs.length := by rw [← HN.out]; exact hkn
      have hky : k < ys.length := by rw [HL.out]; exact hkx
      obtain ⟨ax, rfl, hX, -, hXi⟩ := (HA.out.on hbw).get hkx
      obtain ⟨ay, rfl, hY, -, hYi⟩ := (HB.out.on hbw).get hky
      have hsh := HS.out _ (List.getElem_mem hkx)
      have e1 := items_at HE.out hkx hky
      have hcs : (icell xs[k]).length = 11 := rfl
      have hds : (icell ys[k]).length = 11 := rfl
      have hc1 := icell_one hXi
      have hd1 := icell_one hYi
      have HQ : ∀ W, Below wr.heap.size wr W → Calls Try.prog 49 #[.agg (icell xs[k]).toArray, .agg (icell ys[k]).toArray] W fun e w' => e = .returned (.bool true) ∧ Below W.heap.size W w' := fun W hb => by
        have key : ∀ X Y : IE, Y.1 = X.1 → Os.short X.1.o = true → IOk W X → IOk W Y → Calls Try.prog 49 #[.agg (icell X).toArray, .agg (icell Y).toArray] W fun e w' => e = .returned (.bool true) ∧ Below W.heap.size W w' := by
          rintro ⟨it, pv, sv⟩ ⟨it', pv', sv'⟩ e h1 h2 h3
          obtain rfl : it' = it := e
          exact sameItem_any it' pv sv pv' sv' W h1 h2 h3
        exact key _ _ e1 hsh (hXi.on hb) (hYi.on hb)
      have hi0 : (0 : Int) ≤ (k : Int) := by omega
      have hi1 : (k : Int) < (n : Int) := by omega
      clear hXi hYi hsh e1
      generalize icell xs[k] = cs at *
      generalize icell ys[k] = ds at *
      have b1 := below_new wr (.cells cs.toArray 56)
      have b2 := below_new2 wr (.cells cs.toArray 56) (.cells ds.toArray 56)
      have q1 := new_cells wr cs 56
      have hY1 := fun j v hv => keep_cell b1 (hY j v hv)
      have e2 : (wr.alloc (.cells cs.toArray 56)).heap.size = wr.heap.size + 1 := by simp
      have q3 := new_cells (wr.alloc (.cells cs.toArray 56)) ds 56
      have q2 := fun j v hv => keep_cell (below_new (wr.alloc (.cells cs.toArray 56)) (.cells ds.toArray 56)) (q1 j v hv)
      rw [e2] at q3
      go_wp2_with (first
        | (go_at_call 49; refine (HQ _ b2).mono ?_; rintro e w1 ⟨rfl, hb1⟩)
        | (refine load_row rfl 56 _ rfl _ rfl cs hX _ Try.underlying56 rfl (isize56 hcs) ?_)
        | (refine store_new rfl 56 _ _ rfl _ cs rfl rfl (isize56 hcs) (by rw [hcs]; rfl) hc1 ?_)
        | (refine load_row rfl 56 _ rfl _ rfl ds hY1 _ Try.underlying56 rfl (isize56 hds) ?_)
        | (refine store_newB rfl 56 _ _ rfl (wr.heap.size + 1) e2 _ ds rfl rfl (isize56 hds) (by rw [hds]; rfl) hd1 ?_)
        | (refine load_row rfl 56 _ rfl _ rfl cs q2 _ Try.underlying56 rfl (isize56 hcs) ?_)
        | (refine load_row rfl 56 _ rfl _ rfl ds q3 _ Try.underlying56 rfl (isize56 hds) ?_))
      go_roundw
      case rel => exact ⟨k + 1, by omega, by go_num, bchain hbw (bchain b2 hb1)⟩
      case measure => simp [intOf]; omega
    · go_wp2
      go_ret
      exact ⟨rfl, hbw⟩
set_option maxRecDepth 20000 in
theorem liveSame_any (va vb : Value) (xs ys : List IE) (w : World) (ha : itsE w va xs) (hb : itsE w vb ys) (hn : xs.length ≤ 1000000) (hs : ShortI xs) (he : xs.map (·.1) = ys.map (·.1)) :
    Calls Try.prog 21 #[va, vb] w fun e w' => e = .returned (.bool true) ∧ Below w.heap.size w w' := by
  have HC := equalF_any va vb xs ys w ha hb hn hs he
  obtain ⟨ao, cx, rfl⟩ := ha.slice
  obtain ⟨bo, cy, rfl⟩ := hb.slice
  clear ha hb hs he
  generalize xs.length = n at *
  generalize ys.length = m at *
  go_enter Try.func21, Try.ntmps21
  go_wp2_with (go_at_call 48; refine HC.mono ?_; rintro e w1 ⟨rfl, hb1⟩)
  go_ret
  exact ⟨rfl, hb1⟩
end Go.Proofs.Ytbeinicbkbkbpaa.O
