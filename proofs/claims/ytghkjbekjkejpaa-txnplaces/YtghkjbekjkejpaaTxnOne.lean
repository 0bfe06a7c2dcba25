/- The chapter's example: two transactions. -/
import Derived.Test.YtghkjbekjkejpaaTxnComp
import Derived.Test.YtghkjbekjkejpaaTxnCheck2
import Derived.Test.YtghkjbekjkejpaaTxnSame
namespace Go.Proofs.Ytghkjbekjkejpaa.O
open Go.RowKit

abbrev incO : Os.Op := ⟨3, [[97]], 0, 0, [], 1, []⟩
abbrev oneT (r n tm : Int) : Tx.Txn := ⟨(r, n), 0, tm, false, [incO]⟩
theorem strs_one (w : World) (a : List UInt8) : U.strsAt (w.alloc (.cells #[.string ⟨a.toArray⟩] 9)) (.slice (some ⟨w.heap.size, 0, none⟩) 1 1) [a] := by
  refine ⟨_, 1, rfl, Nat.le_refl _, fun k hk => ⟨_, rfl, ?_⟩⟩
  match k, hk with
  | 0, _ => simp [Addr.add]
  | k + 1, h => simp at h
theorem ops_one (w : World) (o : Os.Op) (pv sv : Value) (hp : U.strsAt (w.alloc (oO o pv sv)) pv o.p) (hs : refsIn (w.alloc (oO o pv sv)) sv o.l) : opsIn (w.alloc (oO o pv sv)) (.slice (some ⟨w.heap.size, 0, none⟩) 1 1) [o] := by
  refine ⟨_, 1, rfl, Nat.le_refl _, fun e => by simp at e, fun k hk => ?_⟩
  match k, hk with
  | 0, _ => exact ⟨_, pv, sv, rfl, ⟨by simp [Addr.add], by simp [Addr.add], by simp [Addr.add], by simp [Addr.add], by simp [Addr.add], by simp [Addr.add], by simp [Addr.add]⟩, hp, hs⟩
  | k + 1, h => simp at h
theorem txs_two (w : World) (a b : Tx.Txn) (ova ovb : Value) (ha : opsIn w ova a.ops) (hb : opsIn w ovb b.ops) :
    txsIn (w.alloc (.cells #[.int .i64 a.d.1, .int .i64 a.d.2, .int .i64 a.u, .int .i64 a.t, .bool a.thin, ova, .int .i64 b.d.1, .int .i64 b.d.2, .int .i64 b.u, .int .i64 b.t, .bool b.thin, ovb] 26)) (.slice (some ⟨w.heap.size, 0, none⟩) 2 2) [a, b] := by
  have k0 := below_new w (.cells #[.int .i64 a.d.1, .int .i64 a.d.2, .int .i64 a.u, .int .i64 a.t, .bool a.thin, ova, .int .i64 b.d.1, .int .i64 b.d.2, .int .i64 b.u, .int .i64 b.t, .bool b.thin, ovb] 26)
  refine ⟨_, 2, rfl, Nat.le_refl _, fun e => by simp at e, fun k hk => ?_⟩
  match k, hk with
  | 0, _ => exact ⟨_, ova, rfl, ⟨by simp [Addr.add], by simp [Addr.add], by simp [Addr.add], by simp [Addr.add], by simp [Addr.add], by simp [Addr.add]⟩, ha.on k0⟩
  | 1, _ => exact ⟨_, ovb, rfl, ⟨by simp [Addr.add], by simp [Addr.add], by simp [Addr.add], by simp [Addr.add], by simp [Addr.add], by simp [Addr.add]⟩, hb.on k0⟩
  | k + 2, h => exact absurd h (by simp)
set_option maxRecDepth 20000 in
set_option maxHeartbeats 2000000 in
theorem one_any (r n tm : Int) (w : World) : Calls Try.prog 25 #[.int .i64 r, .int .i64 n, .int .i64 tm] w fun e w' => ∃ ao c, e = .returned (txV (oneT r n tm) (.slice ao 1 c)) ∧ opsIn w' (.slice ao 1 c) [incO] ∧ Below w.heap.size w w' := by
  obtain ⟨W1, hW1⟩ : ∃ W1, W1 = w.alloc (txO (oneT r n tm) (.slice (some ⟨w.heap.size + 1 + 1, 0, none⟩) 1 1)) := ⟨_, rfl⟩
  have k1 : Below w.heap.size w W1 := by rw [hW1]; exact below_new _ _
  have e1 : W1.heap.size = w.heap.size + 1 := by rw [hW1]; simp
  have e2 : (W1.alloc (.cells #[.string ⟨#[97]⟩] 9)).heap.size = w.heap.size + 1 + 1 := by simp [e1]
  have hp : U.strsAt (W1.alloc (.cells #[.string ⟨#[97]⟩] 9)) (.slice (some ⟨w.heap.size + 1, 0, none⟩) 1 1) [[97]] := by
    have h := strs_one W1 [97]
    rw [e1] at h
    exact h
  have hX := below_new2 W1 (.cells #[.string ⟨#[97]⟩] 9) (oO incO (.slice (some ⟨w.heap.size + 1, 0, none⟩) 1 1) (.slice none 0 0))
  have ho := ops_one (W1.alloc (.cells #[.string ⟨#[97]⟩] 9)) incO (.slice (some ⟨w.heap.size + 1, 0, none⟩) 1 1) (.slice none 0 0) (U.strsAt_below hp (below_new _ _) (Nat.le_refl _)) (refsIn_nil _)
  rw [e2] at ho
  have hB := bchain k1 hX
  rw [hW1] at ho hB
  clear hX hp e2 e1 k1 hW1
  go_enter Try.func25, Try.ntmps25
  go_wp2
  refine bodyPost_ret (v := txV (oneT r n tm) (.slice (some ⟨w.heap.size + 1 + 1, 0, none⟩) 1 1)) (by simp [results, Try.results25, go_sem]) rfl ⟨_, _, rfl, ho, hB⟩
theorem ex_a : Tx.check (oneT 0 9 5) = 0 := by decide +kernel
theorem ex_comp : Tx.comp (oneT 0 9 5) (oneT 1 1 5) = -1 := by decide +kernel
theorem ex_rises : Tx.Rises [oneT 0 9 5, oneT 1 1 5] := by
  refine List.pairwise_cons.2 ⟨fun x hx => ?_, List.pairwise_singleton _ _⟩
  rw [List.mem_singleton.1 hx]
  exact Or.inl (by decide)
theorem ex_find : Tx.find [oneT 0 9 5, oneT 1 1 5] (1, 1) = 1 := by decide +kernel
theorem ex_same : Tx.same (oneT 0 9 5) (oneT 1 1 5) = false := by decide +kernel
theorem ex_short : ∀ o ∈ [incO], Os.short o = true := fun o ho => by rw [List.mem_singleton.1 ho]; decide +kernel
set_option maxRecDepth 20000 in
set_option maxHeartbeats 4000000 in
theorem tawake_any (w : World) : Calls Try.prog 7 #[] w fun e w' => e = .returned (.bool true) ∧ Below w.heap.size w w' := by
  go_enter Try.func7, Try.ntmps7
  go_wp2_with fail
  refine (one_any 0 9 5 _).mono ?_
  rintro e w1 ⟨ao, ca, rfl, hoa, hb1⟩
  go_wp2_with fail
  refine (one_any 1 1 5 _).mono ?_
  rintro e w2 ⟨bo, cb, rfl, hob, hb2⟩
  have b3 := below_new2 w2 (txO (oneT 0 9 5) (.slice ao 1 ca)) (txO (oneT 1 1 5) (.slice bo 1 cb))
  have O3 := TAt.new2 w2 (oneT 0 9 5) (.slice ao 1 ca) (oneT 1 1 5) (.slice bo 1 cb)
  have ha3 := (hoa.on hb2).on b3
  have hb3 := hob.on b3
  have C20 := tcheck_any (oneT 0 9 5) (.slice ao 1 ca) _ ex_short (by decide) ha3
  rw [ex_a] at C20
  obtain ⟨W3, hW3⟩ : ∃ W3, W3 = (w2.alloc (txO (oneT 0 9 5) (.slice ao 1 ca))).alloc (txO (oneT 1 1 5) (.slice bo 1 cb)) := ⟨_, rfl⟩
  have B3 := bchain (bchain hb1 hb2) b3
  rw [← hW3] at B3 O3 ha3 hb3 C20
  go_wp2_with fail
  rw [← hW3]
  clear hW3 hb1 hb2 b3 hoa hob
  refine C20.mono ?_
  rintro e w4 ⟨rfl, hb4⟩
  have O4 : TAt w4 w2.heap.size (oneT 0 9 5) (.slice ao 1 ca) ∧ TAt w4 (w2.heap.size + 1) (oneT 1 1 5) (.slice bo 1 cb) := ⟨O3.1.on hb4, O3.2.on hb4⟩
  obtain ⟨⟨c0, c1, c2, c3, c4, c5⟩, ⟨d0, d1, d2, d3, d4, d5⟩⟩ := id O4
  have C21 := tcomp_any (oneT 0 9 5) (.slice ao 1 ca) (oneT 1 1 5) (.slice bo 1 cb) w4
  rw [ex_comp] at C21
  clear C20 O3
  go_wp2_with fail
  refine C21.mono ?_
  rintro e w5 ⟨rfl, hb5⟩
  have O5 : TAt w5 w2.heap.size (oneT 0 9 5) (.slice ao 1 ca) ∧ TAt w5 (w2.heap.size + 1) (oneT 1 1 5) (.slice bo 1 cb) := ⟨O4.1.on hb5, O4.2.on hb5⟩
  have ha5 := (ha3.on hb4).on hb5
  have hb5' := (hb3.on hb4).on hb5
  have B5 := bchain (bchain B3 hb4) hb5
  clear c0 c1 c2 c3 c4 c5 d0 d1 d2 d3 d4 d5 C21 O4 ha3 hb3 hb4 hb5 B3
  obtain ⟨⟨c0, c1, c2, c3, c4, c5⟩, ⟨d0, d1, d2, d3, d4, d5⟩⟩ := id O5
  have h2 := txs_two w5 (oneT 0 9 5) (oneT 1 1 5) (.slice ao 1 ca) (.slice bo 1 cb) ha5 hb5'
  have b6 := below_new w5 (.cells #[.int .i64 0, .int .i64 9, .int .i64 0, .int .i64 5, .bool false, .slice ao 1 ca, .int .i64 1, .int .i64 1, .int .i64 0, .int .i64 5, .bool false, .slice bo 1 cb] 26)
  obtain ⟨-, -, -, -, -, -⟩ := O5.1.on b6
  obtain ⟨e0, e1, -, -, -, -⟩ := O5.2.on b6
  have C22 := tfind_any _ [oneT 0 9 5, oneT 1 1 5] (1, 1) _ h2 (by decide) ex_rises
  rw [ex_find] at C22
  go_wp2_with fail
  refine C22.mono ?_
  rintro e w7 ⟨rfl, hb7⟩
  have O7 : TAt w7 w2.heap.size (oneT 0 9 5) (.slice ao 1 ca) ∧ TAt w7 (w2.heap.size + 1) (oneT 1 1 5) (.slice bo 1 cb) := ⟨(O5.1.on b6).on hb7, (O5.2.on b6).on hb7⟩
  have ha7 := (ha5.on b6).on hb7
  have hb7' := (hb5'.on b6).on hb7
  have B7 := bchain (bchain B5 b6) hb7
  clear c0 c1 c2 c3 c4 c5 d0 d1 d2 d3 d4 d5 e0 e1 C22 h2 O5 ha5 hb5' b6 hb7 B5
  obtain ⟨⟨c0, c1, c2, c3, c4, c5⟩, ⟨d0, d1, d2, d3, d4, d5⟩⟩ := id O7
  have C23 := tsame_any (oneT 0 9 5) (oneT 0 9 5) (.slice ao 1 ca) (.slice ao 1 ca) w7 ex_short (by decide) ha7 ha7
  rw [Tx.same_self] at C23
  go_wp2_with fail
  refine C23.mono ?_
  rintro e w8 ⟨rfl, hb8⟩
  have O8 : TAt w8 w2.heap.size (oneT 0 9 5) (.slice ao 1 ca) ∧ TAt w8 (w2.heap.size + 1) (oneT 1 1 5) (.slice bo 1 cb) := ⟨O7.1.on hb8, O7.2.on hb8⟩
  have C24 := tsame_any (oneT 0 9 5) (oneT 1 1 5) (.slice ao 1 ca) (.slice bo 1 cb) w8 ex_short (by decide) (ha7.on hb8) (hb7'.on hb8)
  rw [ex_same] at C24
  have B8 := bchain B7 hb8
  clear c0 c1 c2 c3 c4 c5 d0 d1 d2 d3 d4 d5 C23 O7 ha7 hb7' hb8 B7
  obtain ⟨⟨c0, c1, c2, c3, c4, c5⟩, ⟨d0, d1, d2, d3, d4, d5⟩⟩ := id O8
  go_wp2_with fail
  refine C24.mono ?_
  rintro e w9 ⟨rfl, hb9⟩
  go_wp2
  go_ret
  exact ⟨rfl, bchain B8 hb9⟩
end Go.Proofs.Ytghkjbekjkejpaa.O
