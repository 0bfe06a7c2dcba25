/- The walks of Compare of transactions, of the search for a place among some that rise, and of Find · The walks of Rises, both sides. -/
import Derived.Test.YtbeinicbkbkbpaaTxnsAll
/- The walks of Compare of transactions, of the search for a place among some that rise, and of Find. -/
namespace Go.Proofs.Ytbeinicbkbkbpaa.O
open Go.RowKit

theorem place1_any (t : Tx.Txn) (ov : Value) (d : D) (w : World) :
    Calls Try.prog 91 #[txV t ov, dV d] w fun e w' => e = .returned (.int .i64 (Dt.comp t.d.1 t.d.2 d.1 d.2)) ∧ Below w.heap.size w w' := by
  have B0 := below_new2 w (txO t ov) (.cells #[.int .i64 d.1, .int .i64 d.2] 44)
  have C := fun W => D.comp_any t.d.1 t.d.2 d.1 d.2 W
  go_enter Try.func91, Try.ntmps91
  go_wp2_with (go_at_call 74; refine (C _).mono ?_; rintro e w1 ⟨rfl, hb1⟩)
  go_ret
  exact ⟨rfl, bchain B0 hb1⟩

/-- Where the search stands: all ahead of i are earlier, none from j on is. -/
def TInv (l : List Tx.Txn) (d : D) (i j : Nat) : Prop := i ≤ j ∧ j ≤ l.length ∧ (∀ k (h : k < l.length), k < i → Tx.dlt l[k].d d) ∧ (∀ k (h : k < l.length), j ≤ k → ¬ Tx.dlt l[k].d d)
theorem TInv.start (l : List Tx.Txn) (d : D) : TInv l d 0 l.length := ⟨Nat.zero_le _, Nat.le_refl _, fun _ _ h => absurd h (Nat.not_lt_zero _), fun k h1 h2 => by omega⟩
theorem TInv.up {l : List Tx.Txn} {d : D} {i j h : Nat} (hp : Tx.Rises l) (hI : TInv l d i j) (h1 : i ≤ h) (h2 : h < j) (hh : h < l.length) (hl : Tx.dlt l[h].d d) : TInv l d (h + 1) j := by
  refine ⟨by omega, hI.2.1, fun k hk hk1 => ?_, hI.2.2.2⟩
  by_cases e : k = h
  · subst e; exact hl
  · exact Tx.dlt_trans (List.pairwise_iff_getElem.1 hp k h hk hh (by omega)) hl
theorem TInv.down {l : List Tx.Txn} {d : D} {i j h : Nat} (hp : Tx.Rises l) (hI : TInv l d i j) (h1 : i ≤ h) (h2 : h < j) (hh : h < l.length) (hl : ¬ Tx.dlt l[h].d d) : TInv l d i h := by
  refine ⟨h1, by omega, hI.2.2.1, fun k hk hk1 hlt => ?_⟩
  by_cases e : k = h
  · subst e; exact hl hlt
  · exact hl (Tx.dlt_trans (List.pairwise_iff_getElem.1 hp h k hh hk (by omega)) hlt)
/-- The place, and whether it is there. -/
def Spot (l : List Tx.Txn) (d : D) (i : Nat) (b : Bool) : Prop := TInv l d i i ∧ (b = true ↔ ∃ h : i < l.length, l[i].d = d)
theorem Spot.miss {l : List Tx.Txn} {d : D} {i : Nat} (hI : TInv l d i i) (hi : ¬ i < l.length) : Spot l d i false := ⟨hI, ⟨fun h => (by cases h), fun ⟨h, _⟩ => absurd h hi⟩⟩
theorem Spot.hit {l : List Tx.Txn} {d : D} {i : Nat} (hI : TInv l d i i) (hi : i < l.length) : Spot l d i (decide (l[i].d = d)) := ⟨hI, ⟨fun h => ⟨hi, of_decide_eq_true h⟩, fun ⟨_, h⟩ => decide_eq_true h⟩⟩
theorem dcf_lt (x y : D) : decide (Dt.comp x.1 x.2 y.1 y.2 < 0) = decide (Tx.dlt x y) := by
  rw [decide_eq_decide]; exact Tx.dcomp_lt x y
theorem dcf_eq (x y : D) : decide (Dt.comp x.1 x.2 y.1 y.2 = 0) = decide (x = y) := by
  rw [decide_eq_decide]; exact Tx.dcomp_zero x y
theorem Spot.none {l : List Tx.Txn} {d : D} {i : Nat} (hp : Tx.Rises l) (h : Spot l d i false) : ∀ x ∈ l, x.d ≠ d := by
  intro x hx e
  obtain ⟨k, hk, rfl⟩ := List.mem_iff_getElem.1 hx
  obtain ⟨⟨_, hi, h1, h2⟩, h3⟩ := h
  by_cases a : k < i
  · have := h1 k hk a
    rw [e] at this
    exact Tx.dlt_irrefl _ this
  · by_cases b : k = i
    · subst b
      have := h3.2 ⟨hk, e⟩
      cases this
    · have := List.pairwise_iff_getElem.1 hp i k (by omega) hk (by omega)
      rw [e] at this
      exact h2 i (by omega) (Nat.le_refl _) this
/-- What the place tells. -/
theorem Spot.find {l : List Tx.Txn} {d : D} {i : Nat} {b : Bool} (hp : Tx.Rises l) (h : Spot l d i b) : Tx.find l d = if b = true then (i : Int) else -1 := by
  cases b with
  | false => rw [Tx.find_none (h.none hp)]; rfl
  | true =>
    obtain ⟨hi, e⟩ := h.2.1 rfl
    rw [Tx.find_at hp hi e]; rfl
theorem put_at {t : Tx.Txn} : ∀ {l : List Tx.Txn} {i : Nat}, i ≤ l.length → (∀ k (h : k < l.length), k < i → Tx.dlt l[k].d t.d) → (∀ h : i < l.length, Tx.dlt t.d l[i].d) → Tx.put l t = l.take i ++ t :: l.drop i
  | [], i, h, _, _ => by obtain rfl : i = 0 := by simpa using h
                         rfl
  | y :: r, 0, _, _, h => by
    have h0 := h (by simp)
    simp only [List.getElem_cons_zero] at h0
    unfold Tx.put
    rw [if_neg (Tx.dlt_ne h0), if_pos h0]
    rfl
  | y :: r, i + 1, h, h1, h2 => by
    have h0 := h1 0 (by simp) (by omega)
    simp only [List.getElem_cons_zero] at h0
    unfold Tx.put
    rw [if_neg (fun e => Tx.dlt_ne h0 e.symm), if_neg (fun q => Tx.dlt_irrefl _ (Tx.dlt_trans q h0))]
    rw [put_at (i := i) (by simpa using h) (fun k hk hki => by have := h1 (k + 1) (by simpa using hk) (by omega); simpa using this) (fun hi => by have := h2 (by simpa using hi); simpa using this)]
    rfl
theorem Spot.put {l : List Tx.Txn} {t : Tx.Txn} {i : Nat} (hp : Tx.Rises l) (h : Spot l t.d i false) : Tx.put l t = l.take i ++ t :: l.drop i := by
  refine put_at h.1.2.1 h.1.2.2.1 fun hi => ?_
  have h1 := h.1.2.2.2 i hi (Nat.le_refl _)
  have h2 := h.none hp _ (List.getElem_mem hi)
  rcases Tx.dlt_total l[i].d t.d with q | q | q
  · exact absurd q h1
  · exact absurd q h2
  · exact q
theorem Spot.same {l : List Tx.Txn} {t : Tx.Txn} {i : Nat} (hp : Tx.Rises l) (h : Spot l t.d i true) : Tx.put l t = l := by
  obtain ⟨hi, e⟩ := h.2.1 rfl
  exact Tx.put_same hp ⟨_, List.getElem_mem hi, e⟩
theorem ret_pair {x : Value} {a b : Bool} (h : a = b) : Ending.returned (.tuple #[x, .bool a]) = .returned (.tuple #[x, .bool b]) := by rw [h]

set_option maxRecDepth 20000 in
set_option maxHeartbeats 2000000 in
theorem tsearch_any (v : Value) (l : List Tx.Txn) (d : D) (w : World) (hv : txsIn w v l) (hn : l.length ≤ 1000000) (hp : Tx.Rises l) :
    Calls Try.prog 90 #[v, dV d, .func (.func 91) #[] #[]] w fun e w' => ∃ (i : Nat) (b : Bool), e = .returned (.tuple #[.int .i64 (i : Int), .bool b]) ∧ Spot l d i b ∧ Below w.heap.size w w' := by
  obtain ⟨ao, c, rfl, _, _, hc⟩ := hv
  obtain ⟨W0, hW0⟩ : ∃ W0, W0 = w.alloc (.cells #[.int .i64 d.1, .int .i64 d.2] 44) := ⟨_, rfl⟩
  have hB0 : Below w.heap.size w W0 := by rw [hW0]; exact below_new _ _
  have hd0 : W0.cell? ⟨w.heap.size, 0, none⟩ = some (.int .i64 d.1) := by rw [hW0]; simp
  have hd1 : W0.cell? ⟨w.heap.size, 1, none⟩ = some (.int .i64 d.2) := by rw [hW0]; simp
  have HC : Hid (∀ k (h : k < l.length), ∃ ad ov, ao = some ad ∧ TcAt w (ad.add (k * 6)) l[k] ov ∧ opsIn w ov l[k].ops) := hc
  have HP : Hid (Tx.Rises l) := hp
  clear hc hp
  obtain ⟨n, hn0⟩ : ∃ n, n = l.length := ⟨_, rfl⟩
  have HN : Hid (n = l.length) := hn0
  have HS : Hid (TInv l d 0 n) := by have h := TInv.start l d; rw [← hn0] at h; exact h
  rw [← hn0] at hn ⊢
  clear hn0
  go_enter Try.func90, Try.ntmps90
  go_wp2
  rw [← hW0]
  clear hW0
  go_loopw [9, 10, 11] (fun a b _ wr => ∃ i j : Nat, a = .int .i64 i ∧ b = .int .i64 j ∧ i ≤ j ∧ j ≤ n ∧ Hid (TInv l d i j) ∧ Below W0.heap.size W0 wr) (fun a b _ _ => (intOf b).toNat - (intOf a).toNat)
  case atStart => exact ⟨0, n, rfl, rfl, by omega, by omega, HS, Below.refl _ _⟩
  case round =>
    clear HS
    obtain ⟨i, j, rfl, rfl, hij, hjn, HS, hbw⟩ := hrel
    by_cases hlt : i < j
    · obtain ⟨h, hh⟩ : ∃ h : Nat, h = (i + j) / 2 := ⟨_, rfl⟩
      have hh1 : i ≤ h := by omega
      have hh2 : h < j := by omega
      have hhd : h < l.length := by have := HN.out; omega
      obtain ⟨ad, ov, rfl, hA, -⟩ := HC.out h hhd
      obtain ⟨c0, c1, c2, c3, c4, c5⟩ := hA.on (bchain hB0 hbw)
      have e0 := keep_cell hbw hd0
      have e1 := keep_cell hbw hd1
      have hshr : ((i : Int) + (j : Int)) / 2 = (h : Int) := by omega
      have hi0 : (0 : Int) ≤ (h : Int) := by omega
      have hi1 : (h : Int) < (n : Int) := by omega
      clear hh hA
      have HQ := fun W => place1_any l[h] ov d W
      have hz := dcf_lt l[h].d d
      by_cases hl : Tx.dlt l[h].d d
      · have HS' : Hid (TInv l d (h + 1) j) := by have k := HS.out.up HP.out hh1 hh2 hhd hl; exact k
        rw [decide_eq_true hl] at hz
        have hz' : Dt.comp l[h].d.1 l[h].d.2 d.1 d.2 < 0 := of_decide_eq_true hz
        clear hz hl HS
        generalize Dt.comp l[h].d.1 l[h].d.2 d.1 d.2 = z at *
        generalize l[h] = x at *
        go_wp2
        go_region_held3 (fun W => W.cell? (ad.add (h * 6)) = some (.int .i64 x.d.1) ∧ W.cell? ⟨(ad.add (h * 6)).block, (ad.add (h * 6)).off + 1, none⟩ = some (.int .i64 x.d.2) ∧ W.cell? ⟨(ad.add (h * 6)).block, (ad.add (h * 6)).off + 2, none⟩ = some (.int .i64 x.u) ∧ W.cell? ⟨(ad.add (h * 6)).block, (ad.add (h * 6)).off + 3, none⟩ = some (.int .i64 x.t) ∧ W.cell? ⟨(ad.add (h * 6)).block, (ad.add (h * 6)).off + 4, none⟩ = some (.bool x.thin) ∧ W.cell? ⟨(ad.add (h * 6)).block, (ad.add (h * 6)).off + 5, none⟩ = some ov ∧ W.cell? ⟨w.heap.size, 0, none⟩ = some (.int .i64 d.1) ∧ W.cell? ⟨w.heap.size, 1, none⟩ = some (.int .i64 d.2) ∧ Below wr.heap.size wr W)
          (first | exact ⟨c0, c1, c2, c3, c4, c5, e0, e1, (Below.refl _ _).drew⟩ | go_keep | (refine ⟨keep_cell hb ?_, keep_cell hb ?_, keep_cell hb ?_, keep_cell hb ?_, keep_cell hb ?_, keep_cell hb ?_, keep_cell hb ?_, keep_cell hb ?_, bchain ?_ hb⟩ <;> go_keep))
          (first | (go_at_call 91; refine (HQ _).mono ?_; rintro e w1 ⟨rfl, hb⟩))
        have hbx : Below wr.heap.size wr w1 := bchain (Below.refl _ _).drew hb
        go_wp2
        go_roundw
        case rel => exact ⟨h + 1, j, by go_num, rfl, by omega, hjn, HS', bchain hbw hbx⟩
        case measure => simp [intOf]; omega
      · have HS' : Hid (TInv l d i h) := by have k := HS.out.down HP.out hh1 hh2 hhd hl; exact k
        rw [decide_eq_false hl] at hz
        have hz' : ¬ Dt.comp l[h].d.1 l[h].d.2 d.1 d.2 < 0 := of_decide_eq_false hz
        clear hz hl HS
        generalize Dt.comp l[h].d.1 l[h].d.2 d.1 d.2 = z at *
        generalize l[h] = x at *
        go_wp2
        go_region_held3 (fun W => W.cell? (ad.add (h * 6)) = some (.int .i64 x.d.1) ∧ W.cell? ⟨(ad.add (h * 6)).block, (ad.add (h * 6)).off + 1, none⟩ = some (.int .i64 x.d.2) ∧ W.cell? ⟨(ad.add (h * 6)).block, (ad.add (h * 6)).off + 2, none⟩ = some (.int .i64 x.u) ∧ W.cell? ⟨(ad.add (h * 6)).block, (ad.add (h * 6)).off + 3, none⟩ = some (.int .i64 x.t) ∧ W.cell? ⟨(ad.add (h * 6)).block, (ad.add (h * 6)).off + 4, none⟩ = some (.bool x.thin) ∧ W.cell? ⟨(ad.add (h * 6)).block, (ad.add (h * 6)).off + 5, none⟩ = some ov ∧ W.cell? ⟨w.heap.size, 0, none⟩ = some (.int .i64 d.1) ∧ W.cell? ⟨w.heap.size, 1, none⟩ = some (.int .i64 d.2) ∧ Below wr.heap.size wr W)
          (first | exact ⟨c0, c1, c2, c3, c4, c5, e0, e1, (Below.refl _ _).drew⟩ | go_keep | (refine ⟨keep_cell hb ?_, keep_cell hb ?_, keep_cell hb ?_, keep_cell hb ?_, keep_cell hb ?_, keep_cell hb ?_, keep_cell hb ?_, keep_cell hb ?_, bchain ?_ hb⟩ <;> go_keep))
          (first | (go_at_call 91; refine (HQ _).mono ?_; rintro e w1 ⟨rfl, hb⟩))
        have hbx : Below wr.heap.size wr w1 := bchain (Below.refl _ _).drew hb
        go_wp2
        go_roundw
        case rel => exact ⟨i, h, rfl, rfl, hh1, by omega, HS', bchain hbw hbx⟩
        case measure => simp [intOf]; omega
    · obtain rfl : i = j := by omega
      by_cases hin : i < n
      · have hhd : i < l.length := by have := HN.out; omega
        obtain ⟨ad, ov, rfl, hA, -⟩ := HC.out i hhd
        obtain ⟨c0, c1, c2, c3, c4, c5⟩ := hA.on (bchain hB0 hbw)
        have e0 := keep_cell hbw hd0
        have e1 := keep_cell hbw hd1
        have HQ := fun W => place1_any l[i] ov d W
        have HE' : Hid (Spot l d i (decide (Dt.comp l[i].d.1 l[i].d.2 d.1 d.2 = 0))) := by
          have k := Spot.hit HS.out hhd
          rw [← dcf_eq] at k
          exact k
        have hi0 : (0 : Int) ≤ (i : Int) := by omega
        have hi1 : (i : Int) < (n : Int) := by omega
        clear hA
        generalize Dt.comp l[i].d.1 l[i].d.2 d.1 d.2 = z at HQ HE'
        generalize l[i] = x at c0 c1 c2 c3 c4 HQ
        go_wp2
        go_region_held3 (fun W => W.cell? (ad.add (i * 6)) = some (.int .i64 x.d.1) ∧ W.cell? ⟨(ad.add (i * 6)).block, (ad.add (i * 6)).off + 1, none⟩ = some (.int .i64 x.d.2) ∧ W.cell? ⟨(ad.add (i * 6)).block, (ad.add (i * 6)).off + 2, none⟩ = some (.int .i64 x.u) ∧ W.cell? ⟨(ad.add (i * 6)).block, (ad.add (i * 6)).off + 3, none⟩ = some (.int .i64 x.t) ∧ W.cell? ⟨(ad.add (i * 6)).block, (ad.add (i * 6)).off + 4, none⟩ = some (.bool x.thin) ∧ W.cell? ⟨(ad.add (i * 6)).block, (ad.add (i * 6)).off + 5, none⟩ = some ov ∧ W.cell? ⟨w.heap.size, 0, none⟩ = some (.int .i64 d.1) ∧ W.cell? ⟨w.heap.size, 1, none⟩ = some (.int .i64 d.2) ∧ Below wr.heap.size wr W)
          (first | exact ⟨c0, c1, c2, c3, c4, c5, e0, e1, (Below.refl _ _).drew⟩ | go_keep | (refine ⟨keep_cell hb ?_, keep_cell hb ?_, keep_cell hb ?_, keep_cell hb ?_, keep_cell hb ?_, keep_cell hb ?_, keep_cell hb ?_, keep_cell hb ?_, bchain ?_ hb⟩ <;> go_keep))
          (first | (go_at_call 91; refine (HQ _).mono ?_; rintro e w1 ⟨rfl, hb⟩))
        have hbx : Below wr.heap.size wr w1 := bchain (Below.refl _ _).drew hb
        go_wp2
        go_ret2
        refine ⟨_, decide (z = 0), ret_pair ?_, HE'.out, bchain (bchain hB0 hbw) hbx⟩
        by_cases e : z = 0
        · subst e; rfl
        · rw [decide_eq_false e]; exact beq_eq_false_iff_ne.2 e
      · have HE : Hid (Spot l d i false) := by
          have k := Spot.miss HS.out (by have := HN.out; omega)
          exact k
        have hin' : ¬ (i : Int) < (n : Int) := by omega
        go_wp2
        go_region
        all_goals
          go_wp2
          go_ret2
          exact ⟨_, false, rfl, HE.out, (bchain hB0 hbw).drew⟩
theorem tplace_any (v : Value) (l : List Tx.Txn) (d : D) (w : World) (hv : txsIn w v l) (hn : l.length ≤ 1000000) (hp : Tx.Rises l) :
    Calls Try.prog 78 #[v, dV d] w fun e w' => ∃ (i : Nat) (b : Bool), e = .returned (.tuple #[.int .i64 (i : Int), .bool b]) ∧ Spot l d i b ∧ Below w.heap.size w w' := by
  have B0 := below_new w (.cells #[.int .i64 d.1, .int .i64 d.2] 44)
  have C := tsearch_any v l d _ (hv.on B0) hn hp
  clear hv hn hp
  go_enter Try.func78, Try.ntmps78
  go_wp2_with (go_at_call 90; refine C.mono ?_; rintro e w1 ⟨i, b, rfl, hS, hb1⟩)
  go_ret2
  exact ⟨i, b, rfl, hS, bchain B0 hb1⟩
end Go.Proofs.Ytbeinicbkbkbpaa.O
/- The walks of Rises, both sides. -/
namespace Go.Proofs.Ytbeinicbkbkbpaa.O
open Go.RowKit

theorem rises_one (l : List Tx.Txn) : Tx.Rises (l.take 1) := by
  cases l with
  | nil => exact List.Pairwise.nil
  | cons a r => exact List.pairwise_singleton _ _
theorem rises_all {l : List Tx.Txn} {h : Nat} (hp : Tx.Rises (l.take h)) (hh : ¬ h < l.length) : Tx.rises l = true := by
  rw [List.take_of_length_le (by omega)] at hp
  exact Tx.rises_iff.2 hp

set_option maxRecDepth 20000 in
set_option maxHeartbeats 2000000 in
theorem refTrises_any (v : Value) (l : List Tx.Txn) (w : World) (hv : txsIn w v l) (hn : l.length ≤ 1000000) :
    Calls Try.prog 62 #[v] w fun e w' => e = .returned (.bool (Tx.rises l)) ∧ Below w.heap.size w w' := by
  obtain ⟨ao, c, rfl, _, _, hc⟩ := hv
  have HC : Hid (∀ k (h : k < l.length), ∃ ad ov, ao = some ad ∧ TcAt w (ad.add (k * 6)) l[k] ov ∧ opsIn w ov l[k].ops) := hc
  clear hc
  obtain ⟨m, hm⟩ : ∃ m, m = l.length := ⟨_, rfl⟩
  have HM : Hid (m = l.length) := hm
  have HS : Hid (Tx.Rises (l.take 1)) := by have h := rises_one l; exact h
  rw [← hm] at hn ⊢
  clear hm
  go_enter Try.func62, Try.ntmps62
  go_wp2
  go_loopw [3] (fun i wr => ∃ h : Nat, 1 ≤ h ∧ (h = 1 ∨ h ≤ m) ∧ i = .int .i64 h ∧ Hid (Tx.Rises (l.take h)) ∧ Below w.heap.size w wr) (fun i _ => m - (intOf i).toNat)
  case atStart => exact ⟨1, by omega, .inl rfl, rfl, HS, Below.refl _ _⟩
  case round =>
    clear HS
    obtain ⟨h, hge, hle, rfl, HS, hbw⟩ := hrel
    by_cases hlt : h < m
    · obtain ⟨j, hj⟩ : ∃ j, h = j + 1 := ⟨h - 1, by omega⟩
      have HJ : Hid (h = j + 1) := hj
      have hsub : (h : Int) - 1 = (j : Int) := by omega
      have hkx : h < l.length := by have := HM.out; omega
      have hjx : j < l.length := by omega
      obtain ⟨ad, ov, rfl, hA, -⟩ := HC.out j hjx
      obtain ⟨ad', ov', e, hB, -⟩ := HC.out h hkx
      obtain rfl : ad = ad' := Option.some.inj e
      obtain ⟨c0, c1, -, -, -, -⟩ := hA.on hbw
      obtain ⟨d0, d1, -, -, -, -⟩ := hB.on hbw
      have hi0 : (0 : Int) ≤ (j : Int) := by omega
      have hi1 : (j : Int) < (m : Int) := by omega
      have hi2 : (0 : Int) ≤ (h : Int) := by omega
      have hi3 : (h : Int) < (m : Int) := by omega
      have hwr : IntKind.i64.wrap ((h : Int) - 1) = (j : Int) := by rw [hsub]; simp [IntKind.wrap, IntKind.bits, IntKind.signed]; omega
      have hwj : IntKind.i64.wrap (j : Int) = (j : Int) := by simp [IntKind.wrap, IntKind.bits, IntKind.signed]; omega
      have HQ := fun W => D.refComp_any l[j].d.1 l[j].d.2 l[h].d.1 l[h].d.2 W
      clear hA hB e
      by_cases hl : Tx.dlt l[j].d l[h].d
      · have HS' : Hid (Tx.Rises (l.take (h + 1))) := by
          have k := Tx.rises_step HS.out hkx (.inr ⟨by omega, by
            have e : h - 1 = j := by omega
            simp only [e]
            exact hl⟩)
          exact k
        have hz : Dt.comp l[j].d.1 l[j].d.2 l[h].d.1 l[h].d.2 = -1 := (Tx.dcomp_neg _ _).2 hl
        rw [hz] at HQ
        clear hz hl HS hj hge hle
        generalize l[j] = x at *
        generalize l[h] = y at *
        go_wp2
        go_region_held3 (fun W => W.cell? (ad.add (j * 6)) = some (.int .i64 x.d.1) ∧ W.cell? ⟨(ad.add (j * 6)).block, (ad.add (j * 6)).off + 1, none⟩ = some (.int .i64 x.d.2) ∧ W.cell? (ad.add (h * 6)) = some (.int .i64 y.d.1) ∧ W.cell? ⟨(ad.add (h * 6)).block, (ad.add (h * 6)).off + 1, none⟩ = some (.int .i64 y.d.2) ∧ Below wr.heap.size wr W)
          (first | exact ⟨c0, c1, d0, d1, (Below.refl _ _).drew⟩ | go_keep | (refine ⟨keep_cell hb ?_, keep_cell hb ?_, keep_cell hb ?_, keep_cell hb ?_, bchain ?_ hb⟩ <;> go_keep))
          (first | (go_at_call 80; refine (HQ _).mono ?_; rintro e w1 ⟨rfl, hb⟩))
        have hbx : Below wr.heap.size wr w1 := bchain (Below.refl _ _).drew hb
        go_wp2
        go_roundw
        case rel => exact ⟨h + 1, by omega, .inr (by omega), by go_num, HS', bchain hbw hbx⟩
        case measure => simp [intOf]; omega
      · have HL : Hid (Tx.rises l = false) := by
          have k : Tx.rises l = false := Tx.not_rises (k := j) (by omega) (by
            have e : j + 1 = h := by omega
            simp only [e]
            exact hl)
          exact k
        have hz : ¬ Dt.comp l[j].d.1 l[j].d.2 l[h].d.1 l[h].d.2 = -1 := fun q => hl ((Tx.dcomp_neg _ _).1 q)
        have hz0 : (0 : Int) ≤ Dt.comp l[j].d.1 l[j].d.2 l[h].d.1 l[h].d.2 := by
          have := Dt.comp_cases l[j].d.1 l[j].d.2 l[h].d.1 l[h].d.2
          omega
        clear hl HS hj hge hle
        generalize Dt.comp l[j].d.1 l[j].d.2 l[h].d.1 l[h].d.2 = z at *
        generalize l[j] = x at *
        generalize l[h] = y at *
        have hzb : (z != -1) = true := by simpa using hz
        clear hz
        go_wp2
        go_region_held3 (fun W => W.cell? (ad.add (j * 6)) = some (.int .i64 x.d.1) ∧ W.cell? ⟨(ad.add (j * 6)).block, (ad.add (j * 6)).off + 1, none⟩ = some (.int .i64 x.d.2) ∧ W.cell? (ad.add (h * 6)) = some (.int .i64 y.d.1) ∧ W.cell? ⟨(ad.add (h * 6)).block, (ad.add (h * 6)).off + 1, none⟩ = some (.int .i64 y.d.2) ∧ Below wr.heap.size wr W)
          (first | exact ⟨c0, c1, d0, d1, (Below.refl _ _).drew⟩ | go_keep | (refine ⟨keep_cell hb ?_, keep_cell hb ?_, keep_cell hb ?_, keep_cell hb ?_, bchain ?_ hb⟩ <;> go_keep))
          (first | (go_at_call 80; refine (HQ _).mono ?_; rintro e w1 ⟨rfl, hb⟩))
        have hbx : Below wr.heap.size wr w1 := bchain (Below.refl _ _).drew hb
        go_wp2
        go_ret
        exact ⟨ret_bool HL.out.symm, bchain hbw hbx⟩
    · have HL : Hid (Tx.rises l = true) := by
        have k := rises_all HS.out (by have := HM.out; omega)
        exact k
      clear hle
      go_wp2
      go_ret
      exact ⟨ret_bool HL.out.symm, hbw⟩
end Go.Proofs.Ytbeinicbkbkbpaa.O
