/- The chapter's example: leaves at a/k and a/m. -/
import Derived.Test.YtmnehekcealjhaaGreatTLeaves
import Derived.Test.YtmnehekcealjhaaGreatTKinds
import Derived.Test.YtmnehekcealjhaaGreatGoods
import Derived.Test.YtmnehekcealjhaaGreatNamesAll
namespace Go.Proofs.YtmnehekcealjhaaGreat.O
open Go.RowKit

theorem strs_one (w : World) (a : List UInt8) : U.strsAt (w.alloc (.cells #[.string ⟨a.toArray⟩] 9)) (.slice (some ⟨w.heap.size, 0, none⟩) 1 1) [a] := by
  refine ⟨_, 1, rfl, Nat.le_refl _, fun k hk => ⟨_, rfl, ?_⟩⟩
  match k, hk with
  | 0, _ => simp [Addr.add]
  | k + 1, h => simp at h
theorem strs_two (w : World) (a b : List UInt8) : U.strsAt (w.alloc (.cells #[.string ⟨a.toArray⟩, .string ⟨b.toArray⟩] 9)) (.slice (some ⟨w.heap.size, 0, none⟩) 2 2) [a, b] := by
  refine ⟨_, 2, rfl, Nat.le_refl _, fun k hk => ⟨_, rfl, ?_⟩⟩
  match k, hk with
  | 0, _ => simp [Addr.add]
  | 1, _ => simp [Addr.add]
  | k + 2, h => exact absurd h (by simp)
abbrev ocellsOf (o : Os.Op) (pv sv : Value) : List Value := [.int .i64 o.k, pv, .int .i64 o.vk, .int .i64 o.vn, .string ⟨o.vs.toArray⟩, .int .i64 o.n, sv]
theorem ops_two (w : World) (a b : Os.Op) (pa sa pb sb : Value) (ha : U.strsAt w pa a.p) (hb : U.strsAt w pb b.p) (la : refsIn w sa a.l) (lb : refsIn w sb b.l) :
    opsIn (w.alloc (.cells #[.int .i64 a.k, pa, .int .i64 a.vk, .int .i64 a.vn, .string ⟨a.vs.toArray⟩, .int .i64 a.n, sa, .int .i64 b.k, pb, .int .i64 b.vk, .int .i64 b.vn, .string ⟨b.vs.toArray⟩, .int .i64 b.n, sb] 52)) (.slice (some ⟨w.heap.size, 0, none⟩) 2 2) [a, b] := by
  have k0 := below_new w (.cells #[.int .i64 a.k, pa, .int .i64 a.vk, .int .i64 a.vn, .string ⟨a.vs.toArray⟩, .int .i64 a.n, sa, .int .i64 b.k, pb, .int .i64 b.vk, .int .i64 b.vn, .string ⟨b.vs.toArray⟩, .int .i64 b.n, sb] 52)
  refine ⟨_, 2, rfl, Nat.le_refl _, fun e => by simp at e, fun k hk => ?_⟩
  match k, hk with
  | 0, _ => exact ⟨_, pa, sa, rfl, ⟨by simp [Addr.add], by simp [Addr.add], by simp [Addr.add], by simp [Addr.add], by simp [Addr.add], by simp [Addr.add], by simp [Addr.add]⟩, U.strsAt_below ha k0 (Nat.le_refl _), la.on k0⟩
  | 1, _ => exact ⟨_, pb, sb, rfl, ⟨by simp [Addr.add], by simp [Addr.add], by simp [Addr.add], by simp [Addr.add], by simp [Addr.add], by simp [Addr.add], by simp [Addr.add]⟩, U.strsAt_below hb k0 (Nat.le_refl _), lb.on k0⟩
  | k + 2, h => exact absurd h (by simp)
theorem txs_one (w : World) (a : Tx.Txn) (ova : Value) (ha : opsIn w ova a.ops) :
    txsIn (w.alloc (.cells #[.int .i64 a.d.1, .int .i64 a.d.2, .int .i64 a.u, .int .i64 a.t, .bool a.thin, ova] 57)) (.slice (some ⟨w.heap.size, 0, none⟩) 1 1) [a] := by
  have k0 := below_new w (.cells #[.int .i64 a.d.1, .int .i64 a.d.2, .int .i64 a.u, .int .i64 a.t, .bool a.thin, ova] 57)
  refine ⟨_, 1, rfl, Nat.le_refl _, fun e => by simp at e, fun k hk => ?_⟩
  match k, hk with
  | 0, _ => exact ⟨_, ova, rfl, ⟨by simp [Addr.add], by simp [Addr.add], by simp [Addr.add], by simp [Addr.add], by simp [Addr.add], by simp [Addr.add]⟩, ha.on k0⟩
  | k + 1, h => exact absurd h (by simp)
abbrev exO1 : Os.Op := ⟨3, [[97], [109]], 0, 0, [], 1, []⟩
abbrev exO2 : Os.Op := ⟨3, [[97], [107]], 0, 0, [], 1, []⟩
abbrev exT : Tx.Txn := ⟨(0, 1), 0, 1, false, [exO1, exO2]⟩
abbrev exTs : List Tx.Txn := [exT]
abbrev exIts : List Lv.Item := [⟨((0, 1), 0), exO1, 1⟩, ⟨((0, 1), 1), exO2, 1⟩]
theorem ex_all : Lv.all exTs (seenD []) = exIts := by rfl
theorem ex_few : Few13 exTs := fun t ht => by
  rw [List.mem_singleton.1 ht]
  exact ⟨by decide, fun o ho => by
    simp only [List.mem_cons, List.not_mem_nil, or_false] at ho
    rcases ho with rfl | rfl <;> exact ⟨by decide, fun x hx => by simp at hx⟩⟩
theorem ex_dots : ∀ t ∈ exTs, (Lit.int .i64 t.d.1).wf = true ∧ (Lit.int .i64 t.d.2).wf = true := fun t ht => by
  rw [List.mem_singleton.1 ht]
  exact ⟨by decide, by decide⟩
theorem ex_mem {xs : List IE} (h : xs.map (·.1) = exIts) {x : IE} (hx : x ∈ xs) : x.1 = ⟨((0, 1), 0), exO1, 1⟩ ∨ x.1 = ⟨((0, 1), 1), exO2, 1⟩ := by
  have hm : x.1 ∈ exIts := by rw [← h]; exact List.mem_map.2 ⟨x, hx, rfl⟩
  simpa [exIts] using hm
theorem ex_short {xs : List IE} (h : xs.map (·.1) = exIts) : ShortI xs := fun x hx => by
  rcases ex_mem h hx with e | e <;> (rw [e]; decide +kernel)
theorem ex_len {xs : List IE} (h : xs.map (·.1) = exIts) : xs.length ≤ 1000000 := by
  have h1 := congrArg List.length h
  rw [List.length_map] at h1
  rw [h1]
  decide
theorem keys_its {xs : List IE} {its : List Lv.Item} (h : xs.map (·.1) = its) (p : List (List UInt8)) : (Li.vals Lib.compareBytes (xs.filterMap fun y => Tr.next p y.1)) = Tr.keys its p := by
  unfold Tr.keys
  rw [← h, List.filterMap_map]
  rfl
theorem ex_k0 : Tr.keys exIts [] = [[97]] := by decide +kernel
theorem ex_k1 : Tr.keys exIts [[97]] = [[107], [109]] := by decide +kernel
theorem ex_lv : (Tr.leaves exIts).length = 2 := by decide +kernel
theorem ex_dp : Tr.deep exIts = 2 := by decide +kernel
/-- What the example's items tell, whatever was laid since. -/
structure ExT (w : World) (r : Value) : Prop where
  top : ∀ W, Below w.heap.size w W → Calls Tryz.prog 16 #[r, .slice none 0 0] W fun e w' => ∃ q, e = .returned q ∧ U.strsAt w' q [[97]] ∧ Below W.heap.size W w'
  under : ∀ W vp, Below w.heap.size w W → U.strsAt W vp [[97]] → Calls Tryz.prog 16 #[r, vp] W fun e w' => ∃ q, e = .returned q ∧ U.strsAt w' q [[107], [109]] ∧ Below W.heap.size W w'
  leaves : ∀ W, Below w.heap.size w W → Calls Tryz.prog 13 #[r] W fun e w' => ∃ za zc, e = .returned (.slice za 2 zc) ∧ Below W.heap.size W w'
  deep : ∀ W, Below w.heap.size w W → Calls Tryz.prog 19 #[r] W fun e w' => e = .returned (.int .i64 2) ∧ Below W.heap.size W w'
theorem ExT.of {w : World} {r : Value} {xs : List IE} (h1 : itsE w r xs) (h2 : xs.map (·.1) = exIts) : ExT w r where
  top W hb := by
    have a := keys_any r (.slice none 0 0) xs [] W (h1.on hb) (U.strsAt_nil W) (ex_len h2) (by simp) (ex_short h2)
    rw [keys_its h2, ex_k0] at a
    exact a
  under W vp hb hp := by
    have a := keys_any r vp xs [[97]] W (h1.on hb) hp (ex_len h2) (by simp) (ex_short h2)
    rw [keys_its h2, ex_k1] at a
    exact a
  leaves W hb := (leavesT_any r xs W (h1.on hb) (ex_len h2) (ex_short h2)).mono fun e w' ⟨q, zs, e1, e2, e3, e4⟩ => by
    obtain ⟨za, zc, rfl⟩ := e3.slice
    have hl : zs.length = 2 := by
      have h := congrArg List.length e2
      rw [List.length_map, h2, ex_lv] at h
      exact h
    rw [hl] at e1
    exact ⟨za, zc, e1, e4⟩
  deep W hb := by
    have a := deep_any r xs W (h1.on hb) (ex_len h2)
    have e : deepE xs = 2 := by unfold deepE; rw [h2, ex_dp]
    rw [e] at a
    exact a

set_option maxRecDepth 20000 in
set_option maxHeartbeats 4000000 in
theorem awake_any (w : World) : Calls Tryz.prog 7 #[] w fun e w' => e = .returned (.bool true) ∧ Below w.heap.size w w' := by
  obtain ⟨W1, hW1⟩ : ∃ W1, W1 = (w.alloc (.cells #[.string ⟨#[97]⟩, .string ⟨#[109]⟩] 9)).alloc (.cells #[.string ⟨#[97]⟩, .string ⟨#[107]⟩] 9) := ⟨_, rfl⟩
  have B1 : Below w.heap.size w W1 := by rw [hW1]; exact below_new2 _ _ _
  have s1 : W1.heap.size = w.heap.size + 1 + 1 := by rw [hW1]; simp
  have P1 : U.strsAt W1 (.slice (some ⟨w.heap.size, 0, none⟩) 2 2) [[97], [109]] := by
    rw [hW1]; exact U.strsAt_below (strs_two w [97] [109]) (below_new _ _) (Nat.le_refl _)
  have P2 : U.strsAt W1 (.slice (some ⟨w.heap.size + 1, 0, none⟩) 2 2) [[97], [107]] := by
    have h := strs_two (w.alloc (.cells #[.string ⟨#[97]⟩, .string ⟨#[109]⟩] 9)) [97] [107]
    have e : (w.alloc (.cells #[.string ⟨#[97]⟩, .string ⟨#[109]⟩] 9)).heap.size = w.heap.size + 1 := by simp
    rw [e] at h
    rw [hW1]; exact h
  have O2 := ops_two W1 exO1 exO2 (.slice (some ⟨w.heap.size, 0, none⟩) 2 2) (.slice none 0 0) (.slice (some ⟨w.heap.size + 1, 0, none⟩) 2 2) (.slice none 0 0) P1 P2 (refsIn_nil _) (refsIn_nil _)
  obtain ⟨W2, hW2⟩ : ∃ W2, W2 = W1.alloc (.cells #[.int .i64 3, .slice (some ⟨w.heap.size, 0, none⟩) 2 2, .int .i64 0, .int .i64 0, .string ⟨#[]⟩, .int .i64 1, .slice none 0 0, .int .i64 3, .slice (some ⟨w.heap.size + 1, 0, none⟩) 2 2, .int .i64 0, .int .i64 0, .string ⟨#[]⟩, .int .i64 1, .slice none 0 0] 52) := ⟨_, rfl⟩
  have s2 : W2.heap.size = w.heap.size + 1 + 1 + 1 := by rw [hW2]; simp [s1]
  have O3 : opsIn W2 (.slice (some ⟨w.heap.size + 1 + 1, 0, none⟩) 2 2) [exO1, exO2] := by rw [hW2, ← s1]; exact O2
  have T3 := txs_one W2 exT (.slice (some ⟨w.heap.size + 1 + 1, 0, none⟩) 2 2) O3
  obtain ⟨W3, hW3⟩ : ∃ W3, W3 = W2.alloc (.cells #[.int .i64 0, .int .i64 1, .int .i64 0, .int .i64 1, .bool false, .slice (some ⟨w.heap.size + 1 + 1, 0, none⟩) 2 2] 57) := ⟨_, rfl⟩
  have T4 : txsIn W3 (.slice (some ⟨w.heap.size + 1 + 1 + 1, 0, none⟩) 1 1) exTs := by rw [hW3, ← s2]; exact T3
  have B3 : Below w.heap.size w W3 := by rw [hW3, hW2]; exact bchain B1 (below_new2 _ _ _)
  have HA : Calls Tryz.prog 8 #[.slice (some ⟨w.heap.size + 1 + 1 + 1, 0, none⟩) 1 1, .slice none 0 0] W3 fun e w' => ∃ r, e = .returned r ∧ Hid (ExT w' r) ∧ Below W3.heap.size W3 w' :=
    (all_any _ (.slice none 0 0) exTs [] W3 T4 (T.cntsIn_nil W3) (by decide) ex_few ex_dots (by simp) Ct.std_nil).mono fun e w' ⟨r, xs, e1, h1, h2, h3⟩ => by
      rw [ex_all] at h2
      exact ⟨r, e1, ExT.of h1 h2, h3⟩
  have hWW : W3 = (((w.alloc (.cells #[.string ⟨#[97]⟩, .string ⟨#[109]⟩] 9)).alloc (.cells #[.string ⟨#[97]⟩, .string ⟨#[107]⟩] 9)).alloc (.cells #[.int .i64 3, .slice (some ⟨w.heap.size, 0, none⟩) 2 2, .int .i64 0, .int .i64 0, .string ⟨#[]⟩, .int .i64 1, .slice none 0 0, .int .i64 3, .slice (some ⟨w.heap.size + 1, 0, none⟩) 2 2, .int .i64 0, .int .i64 0, .string ⟨#[]⟩, .int .i64 1, .slice none 0 0] 52)).alloc (.cells #[.int .i64 0, .int .i64 1, .int .i64 0, .int .i64 1, .bool false, .slice (some ⟨w.heap.size + 1 + 1, 0, none⟩) 2 2] 57) := by rw [hW3, hW2, hW1]
  rw [hWW] at HA B3
  clear hWW hW3 hW2 hW1 T4 T3 O3 O2 P1 P2 B1 s1 s2
  go_enter Tryz.func7, Tryz.ntmps7
  go_wp2_with (first
    | (go_at_call 19; refine (H1.out.deep _ (bchain k7 (Below.refl _ _))).mono ?_; rintro e w8 ⟨rfl, hb8⟩)
    | (go_at_call 13; refine (H1.out.leaves _ k6).mono ?_; rintro e w7 ⟨za, zc, rfl, hb7⟩; have k7 := bchain k6 hb7)
    | (go_at_call 15; refine (U.same_any q5 _ [[107], [109]] [[107], [109]] _ (by simp) (U.strsAt_below hq5 (below_new w5 _) (Nat.le_refl _)) (strs_two w5 [107] [109])).mono ?_; rintro e w6 ⟨rfl, hb6⟩; have k6 := bchain k5 (bchain (below_new w5 _) hb6))
    | (go_at_call 16; refine (H1.out.under _ _ (bchain k3 (below_new w3 _)) (strs_one w3 [97])).mono ?_; rintro e w5 ⟨q5, rfl, hq5, hb5⟩; have k5 := bchain (bchain k3 (below_new w3 _)) hb5)
    | (go_at_call 15; refine (U.same_any q2 _ [[97]] [[97]] _ (by simp) (U.strsAt_below hq2 (below_new w2 _) (Nat.le_refl _)) (strs_one w2 [97])).mono ?_; rintro e w3 ⟨rfl, hb3⟩; have k3 := bchain hb2 (bchain (below_new w2 _) hb3))
    | (go_at_call 16; refine (H1.out.top _ (Below.refl _ _)).mono ?_; rintro e w2 ⟨q2, rfl, hq2, hb2⟩)
    | (go_at_call 8; refine HA.mono ?_; rintro e w1 ⟨r, rfl, H1, hb1⟩))
  go_ret
  exact ⟨rfl, bchain B3 (bchain hb1 (bchain k7 hb8))⟩
end Go.Proofs.YtmnehekcealjhaaGreat.O
