/- The chapter's example: a Put, and another one that covers it. -/
import Derived.Test.YtbeinicbkbkbpaaGoods
namespace Go.Proofs.Ytbeinicbkbkbpaa.O
open Go.RowKit

abbrev putO (z : Int) (l : List U) : Os.Op := ⟨1, [[97]], 1, z, [], 0, l⟩
abbrev putT (n z : Int) (l : List U) : Tx.Txn := ⟨(0, n), 0, n, false, [putO z l]⟩
theorem strs_one (w : World) (a : List UInt8) : U.strsAt (w.alloc (.cells #[.string ⟨a.toArray⟩] 9)) (.slice (some ⟨w.heap.size, 0, none⟩) 1 1) [a] := by
  refine ⟨_, 1, rfl, Nat.le_refl _, fun k hk => ⟨_, rfl, ?_⟩⟩
  match k, hk with
  | 0, _ => simp [Addr.add]
  | k + 1, h => simp at h
theorem ops_one (w : World) (o : Os.Op) (pv sv : Value) (hp : U.strsAt (w.alloc (oO o pv sv)) pv o.p) (hs : refsIn (w.alloc (oO o pv sv)) sv o.l) : opsIn (w.alloc (oO o pv sv)) (.slice (some ⟨w.heap.size, 0, none⟩) 1 1) [o] := by
  refine ⟨_, 1, rfl, Nat.le_refl _, fun e => by simp at e, fun k hk => ?_⟩
  match k, hk with
  | 0, _ => exact ⟨_, pv, sv, rfl, ⟨by simp [Addr.add], by simp [Addr.add], by simp [Addr.add], by simp [Addr.add], by simp [Addr.add], by simp [Addr.add], by simp [Addr.add]⟩, hp, hs⟩
  | k + 1, h => simp at h
theorem txs_two (w : World) (a b : Tx.Txn) (ova ovb : Value) (ha : opsIn w ova a.ops) (hb : opsIn w ovb b.ops) :
    txsIn (w.alloc (.cells #[.int .i64 a.d.1, .int .i64 a.d.2, .int .i64 a.u, .int .i64 a.t, .bool a.thin, ova, .int .i64 b.d.1, .int .i64 b.d.2, .int .i64 b.u, .int .i64 b.t, .bool b.thin, ovb] 48)) (.slice (some ⟨w.heap.size, 0, none⟩) 2 2) [a, b] := by
  have k0 := below_new w (.cells #[.int .i64 a.d.1, .int .i64 a.d.2, .int .i64 a.u, .int .i64 a.t, .bool a.thin, ova, .int .i64 b.d.1, .int .i64 b.d.2, .int .i64 b.u, .int .i64 b.t, .bool b.thin, ovb] 48)
  refine ⟨_, 2, rfl, Nat.le_refl _, fun e => by simp at e, fun k hk => ?_⟩
  match k, hk with
  | 0, _ => exact ⟨_, ova, rfl, ⟨by simp [Addr.add], by simp [Addr.add], by simp [Addr.add], by simp [Addr.add], by simp [Addr.add], by simp [Addr.add]⟩, ha.on k0⟩
  | 1, _ => exact ⟨_, ovb, rfl, ⟨by simp [Addr.add], by simp [Addr.add], by simp [Addr.add], by simp [Addr.add], by simp [Addr.add], by simp [Addr.add]⟩, hb.on k0⟩
  | k + 2, h => exact absurd h (by simp)
set_option maxRecDepth 20000 in
set_option maxHeartbeats 2000000 in
theorem put13_any (n z : Int) (sa : Option Addr) (sn sc : Nat) (l : List U) (w : World) (hs : refsIn w (.slice sa sn sc) l) : Calls Try.prog 33 #[.int .i64 n, .int .i64 z, .slice sa sn sc] w fun e w' => ∃ ao c, e = .returned (txV (putT n z l) (.slice ao 1 c)) ∧ opsIn w' (.slice ao 1 c) [putO z l] ∧ Below w.heap.size w w' := by
  obtain ⟨W1, hW1⟩ : ∃ W1, W1 = w.alloc (txO (putT n z l) (.slice (some ⟨w.heap.size + 1 + 1, 0, none⟩) 1 1)) := ⟨_, rfl⟩
  have k1 : Below w.heap.size w W1 := by rw [hW1]; exact below_new _ _
  have e1 : W1.heap.size = w.heap.size + 1 := by rw [hW1]; simp
  have e2 : (W1.alloc (.cells #[.string ⟨#[97]⟩] 9)).heap.size = w.heap.size + 1 + 1 := by simp [e1]
  have hp : U.strsAt (W1.alloc (.cells #[.string ⟨#[97]⟩] 9)) (.slice (some ⟨w.heap.size + 1, 0, none⟩) 1 1) [[97]] := by
    have h := strs_one W1 [97]
    rw [e1] at h
    exact h
  have hX := below_new2 W1 (.cells #[.string ⟨#[97]⟩] 9) (oO (putO z l) (.slice (some ⟨w.heap.size + 1, 0, none⟩) 1 1) (.slice sa sn sc))
  have ho := ops_one (W1.alloc (.cells #[.string ⟨#[97]⟩] 9)) (putO z l) (.slice (some ⟨w.heap.size + 1, 0, none⟩) 1 1) (.slice sa sn sc) (U.strsAt_below hp (below_new _ _) (Nat.le_refl _)) (hs.on (bchain k1 hX))
  rw [e2] at ho
  have hB := bchain k1 hX
  rw [hW1] at ho hB
  clear hX hp e2 e1 k1 hW1 hs
  go_enter Try.func33, Try.ntmps33
  go_wp2
  refine bodyPost_ret (v := txV (putT n z l) (.slice (some ⟨w.heap.size + 1 + 1, 0, none⟩) 1 1)) (by simp [results, Try.results33, go_sem]) rfl ⟨_, _, rfl, ho, hB⟩
abbrev exTs : List Tx.Txn := [putT 1 1 [], putT 2 2 [((0, 1), 0)]]
abbrev exU : List U := [((0, 2), 1)]
theorem ex_all1 : Lv.all exTs (seenD []) = [⟨((0, 2), 0), putO 2 [((0, 1), 0)], 2⟩] := by rfl
theorem ex_all2 : Lv.all exTs (seenD exU) = [⟨((0, 1), 0), putO 1 [], 1⟩] := by rfl
theorem ex_few : Few13 exTs := fun t ht => by
  simp only [exTs, List.mem_cons, List.not_mem_nil, or_false] at ht
  rcases ht with rfl | rfl
  · exact ⟨by decide, fun o ho => by rw [List.mem_singleton.1 ho]; exact ⟨by decide, fun x hx => by simp at hx⟩⟩
  · exact ⟨by decide, fun o ho => by rw [List.mem_singleton.1 ho]; exact ⟨by decide, fun x hx => by rw [List.mem_singleton.1 hx]; exact ⟨by decide, by decide, by decide⟩⟩⟩
theorem ex_dots : ∀ t ∈ exTs, (Lit.int .i64 t.d.1).wf = true ∧ (Lit.int .i64 t.d.2).wf = true := fun t ht => by
  simp only [exTs, List.mem_cons, List.not_mem_nil, or_false] at ht
  rcases ht with rfl | rfl <;> exact ⟨by decide, by decide⟩
theorem ex_std : Ct.Std exU := Ct.right_iff.1 (by decide +kernel)
/-- One item alone: where it lies. -/
theorem its_single {w : World} {v : Value} {xs : List IE} {it : Lv.Item} (h : itsE w v xs) (he : xs.map (·.1) = [it]) : ∃ ad cap, v = .slice (some ad) 1 cap ∧ w.cell? ⟨ad.block, ad.off + 1, none⟩ = some (.int .i64 it.x.1.2) := by
  have hl : xs.length = 1 := by have := congrArg List.length he; simpa using this
  obtain ⟨ao, cap, rfl⟩ := h.slice
  obtain ⟨ad, rfl, -, hX, -⟩ := h.get (k := 0) (by omega)
  have e : (xs[0]'(by omega)).1 = it := by
    have := congrArg (fun l => l[0]?) he
    simpa [List.getElem?_eq_getElem (show 0 < xs.length by omega)] using this
  refine ⟨ad, cap, by rw [hl], ?_⟩
  have h1 := hX.c1
  rw [e] at h1
  simpa [Addr.add] using h1

set_option maxRecDepth 20000 in
set_option maxHeartbeats 4000000 in
theorem awake_any (w : World) : Calls Try.prog 10 #[] w fun e w' => e = .returned (.bool true) ∧ Below w.heap.size w w' := by
  have HA : ∀ v W, txsIn W v exTs → Calls Try.prog 11 #[v, .slice none 0 0] W fun e w' => (∃ ad cap, e = .returned (.slice (some ad) 1 cap) ∧ w'.cell? ⟨ad.block, ad.off + 1, none⟩ = some (.int .i64 2)) ∧ Below W.heap.size W w' := fun v W hv =>
    (all_any v (.slice none 0 0) exTs [] W hv (T.cntsIn_nil W) (by decide) ex_few ex_dots (by simp) Ct.std_nil).mono fun e w' ⟨r, xs, e1, h1, h2, h3⟩ => by
      rw [ex_all1] at h2
      obtain ⟨ad, cap, rfl, h4⟩ := its_single h1 h2
      exact ⟨⟨ad, cap, e1, h4⟩, h3⟩
  have HB : ∀ v vu W, txsIn W v exTs → T.cntsIn W vu exU → Calls Try.prog 11 #[v, vu] W fun e w' => (∃ ad cap, e = .returned (.slice (some ad) 1 cap) ∧ w'.cell? ⟨ad.block, ad.off + 1, none⟩ = some (.int .i64 1)) ∧ Below W.heap.size W w' := fun v vu W hv hu =>
    (all_any v vu exTs exU W hv hu (by decide) ex_few ex_dots (by decide) ex_std).mono fun e w' ⟨r, xs, e1, h1, h2, h3⟩ => by
      rw [ex_all2] at h2
      obtain ⟨ad, cap, rfl, h4⟩ := its_single h1 h2
      exact ⟨⟨ad, cap, e1, h4⟩, h3⟩
  go_enter Try.func10, Try.ntmps10
  go_wp2_with (first
    | (go_at_call 33; with_reducible (refine (put13_any _ _ _ _ _ [] w (refsIn_nil _)).mono ?_); rintro e w1 ⟨ao1, cp1, rfl, ho1, hb1⟩; have hr1 := refsIn_one w1 (((0, 1), 0) : U))
    | (go_at_call 33; refine (put13_any _ _ _ _ _ [((0, 1), 0)] _ hr1).mono ?_; rintro e w2 ⟨ao2, cp2, rfl, ho2, hb2⟩; have ho1' := (ho1.on (below_new w1 (uO ((0, 1), 0)))).on hb2; have hts := txs_two w2 (putT 1 1 []) (putT 2 2 [((0, 1), 0)]) _ _ ho1' ho2)
    | (go_at_call 11; with_reducible (refine (HA _ _ hts).mono ?_); rintro e w3 ⟨⟨a3, c3, rfl, h3⟩, hb3⟩; have hts3 := hts.on hb3; have hu3 := T.cntsIn_one w3 (((0, 2), 1) : U); have hts4 := hts3.on (below_new w3 (.cells #[.int .i64 0, .int .i64 2, .int .i64 1] 59)); have h34 := keep_cell (below_new w3 (.cells #[.int .i64 0, .int .i64 2, .int .i64 1] 59)) h3)
    | (go_at_call 11; refine (HB _ _ _ hts4 hu3).mono ?_; rintro e w4 ⟨⟨a4, c4, rfl, h4⟩, hb4⟩; have h35 := keep_cell hb4 h34))
  go_ret
  exact ⟨rfl, bchain hb1 (bchain (below_new _ _) (bchain hb2 (bchain (below_new _ _) (bchain hb3 (bchain (below_new _ _) hb4)))))⟩
end Go.Proofs.Ytbeinicbkbkbpaa.O
