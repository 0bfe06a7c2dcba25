/- The walks of Compare of transactions, of the search for a place among some that rise, and of Find · The walks of Rises, both sides · The walk of the document's Short of a transaction · The walks of Check of a transaction, both sides. -/
import Derived.Test.YtmnehekcealjhaaGreatTxnsAll
import Derived.Test.YtmnehekcealjhaaGreatOpWrapAll
/- The walks of Compare of transactions, of the search for a place among some that rise, and of Find. -/
namespace Go.Proofs.YtmnehekcealjhaaGreat.O
open Go.RowKit

/-- Where the search stands: all ahead of i are earlier, none from j on is. -/
def TInv (l : List Tx.Txn) (d : D) (i j : Nat) : Prop := i ≤ j ∧ j ≤ l.length ∧ (∀ k (h : k < l.length), k < i → Tx.dlt l[k].d d) ∧ (∀ k (h : k < l.length), j ≤ k → ¬ Tx.dlt l[k].d d)
theorem TInv.start (l : List Tx.Txn) (d : D) : TInv l d 0 l.length := ⟨Nat.zero_le _, Nat.le_refl _, fun _ _ h => absurd h (Nat.not_lt_zero _), fun k h1 h2 => by omega⟩
theorem TInv.up {l : List Tx.Txn} {d : D} {i j h : Nat} (hp : Tx.Rises l) (hI : TInv l d i j) (h1 : i ≤ h) (h2 : h < j) (hh : h < l.length) (hl : Tx.dlt l[h].d d) : TInv l d (h + 1) j := by
  refine ⟨by omega, hI.2.1, fun k hk hk1 => ?_, hI.2.2.2⟩
  by_cases e : k = h
  · subst e; exact hl
  · exact Tx.dlt_trans (List.pairwise_iff_getElem.1 hp k h hk hh (by omega)) hl
theorem TInv.down {l : List Tx.Txn} {d : D} {i j h : Nat} (hp : Tx.Rises l) (hI : TInv l d i j) (h1 : i ≤ h) (h2 : h < j) (hh : h < l.length) (hl : ¬ Tx.dlt l[h].d d) : TInv l d i h := by
  refine ⟨h1, by omega, hI.2.2.1, fun k hk hk1 hlt => ?_⟩
  by_cases e : k = h
  · subst e; exact hl hlt
  · exact hl (Tx.dlt_trans (List.pairwise_iff_getElem.1 hp h k hh hk (by omega)) hlt)
/-- The place, and whether it is there. -/
def Spot (l : List Tx.Txn) (d : D) (i : Nat) (b : Bool) : Prop := TInv l d i i ∧ (b = true ↔ ∃ h : i < l.length, l[i].d = d)
theorem Spot.miss {l : List Tx.Txn} {d : D} {i : Nat} (hI : TInv l d i i) (hi : ¬ i < l.length) : Spot l d i false := ⟨hI, ⟨fun h => (by cases h), fun ⟨h, _⟩ => absurd h hi⟩⟩
theorem Spot.hit {l : List Tx.Txn} {d : D} {i : Nat} (hI : TInv l d i i) (hi : i < l.length) : Spot l d i (decide (l[i].d = d)) := ⟨hI, ⟨fun h => ⟨hi, of_decide_eq_true h⟩, fun ⟨_, h⟩ => decide_eq_true h⟩⟩
theorem dcf_lt (x y : D) : decide (Dt.comp x.1 x.2 y.1 y.2 < 0) = decide (Tx.dlt x y) := by
  rw [decide_eq_decide]; exact Tx.dcomp_lt x y
theorem dcf_eq (x y : D) : decide (Dt.comp x.1 x.2 y.1 y.2 = 0) = decide (x = y) := by
  rw [decide_eq_decide]; exact Tx.dcomp_zero x y
theorem Spot.none {l : List Tx.Txn} {d : D} {i : Nat} (hp : Tx.Rises l) (h : Spot l d i false) : ∀ x ∈ l, x.d ≠ d := by
  intro x hx e
  obtain ⟨k, hk, rfl⟩ := List.mem_iff_getElem.1 hx
  obtain ⟨⟨_, hi, h1, h2⟩, h3⟩ := h
  by_cases a : k < i
  · have := h1 k hk a
    rw [e] at this
    exact Tx.dlt_irrefl _ this
  · by_cases b : k = i
    · subst b
      have := h3.2 ⟨hk, e⟩
      cases this
    · have := List.pairwise_iff_getElem.1 hp i k (by omega) hk (by omega)
      rw [e] at this
      exact h2 i (by omega) (Nat.le_refl _) this
/-- What the place tells. -/
theorem Spot.find {l : List Tx.Txn} {d : D} {i : Nat} {b : Bool} (hp : Tx.Rises l) (h : Spot l d i b) : Tx.find l d = if b = true then (i : Int) else -1 := by
  cases b with
  | false => rw [Tx.find_none (h.none hp)]; rfl
  | true =>
    obtain ⟨hi, e⟩ := h.2.1 rfl
    rw [Tx.find_at hp hi e]; rfl
theorem put_at {t : Tx.Txn} : ∀ {l : List Tx.Txn} {i : Nat}, i ≤ l.length → (∀ k (h : k < l.length), k < i → Tx.dlt l[k].d t.d) → (∀ h : i < l.length, Tx.dlt t.d l[i].d) → Tx.put l t = l.take i ++ t :: l.drop i
  | [], i, h, _, _ => by obtain rfl : i = 0 := by simpa using h
                         rfl
  | y :: r, 0, _, _, h => by
    have h0 := h (by simp)
    simp only [List.getElem_cons_zero] at h0
    unfold Tx.put
    rw [if_neg (Tx.dlt_ne h0), if_pos h0]
    rfl
  | y :: r, i + 1, h, h1, h2 => by
    have h0 := h1 0 (by simp) (by omega)
    simp only [List.getElem_cons_zero] at h0
    unfold Tx.put
    rw [if_neg (fun e => Tx.dlt_ne h0 e.symm), if_neg (fun q => Tx.dlt_irrefl _ (Tx.dlt_trans q h0))]
    rw [put_at (i := i) (by simpa using h) (fun k hk hki => by have := h1 (k + 1) (by simpa using hk) (by omega); simpa using this) (fun hi => by have := h2 (by simpa using hi); simpa using this)]
    rfl
theorem Spot.put {l : List Tx.Txn} {t : Tx.Txn} {i : Nat} (hp : Tx.Rises l) (h : Spot l t.d i false) : Tx.put l t = l.take i ++ t :: l.drop i := by
  refine put_at h.1.2.1 h.1.2.2.1 fun hi => ?_
  have h1 := h.1.2.2.2 i hi (Nat.le_refl _)
  have h2 := h.none hp _ (List.getElem_mem hi)
  rcases Tx.dlt_total l[i].d t.d with q | q | q
  · exact absurd q h1
  · exact absurd q h2
  · exact q
theorem Spot.same {l : List Tx.Txn} {t : Tx.Txn} {i : Nat} (hp : Tx.Rises l) (h : Spot l t.d i true) : Tx.put l t = l := by
  obtain ⟨hi, e⟩ := h.2.1 rfl
  exact Tx.put_same hp ⟨_, List.getElem_mem hi, e⟩
theorem ret_pair {x : Value} {a b : Bool} (h : a = b) : Ending.returned (.tuple #[x, .bool a]) = .returned (.tuple #[x, .bool b]) := by rw [h]

end Go.Proofs.YtmnehekcealjhaaGreat.O
/- The walks of Rises, both sides. -/
namespace Go.Proofs.YtmnehekcealjhaaGreat.O
open Go.RowKit

theorem rises_one (l : List Tx.Txn) : Tx.Rises (l.take 1) := by
  cases l with
  | nil => exact List.Pairwise.nil
  | cons a r => exact List.pairwise_singleton _ _
theorem rises_all {l : List Tx.Txn} {h : Nat} (hp : Tx.Rises (l.take h)) (hh : ¬ h < l.length) : Tx.rises l = true := by
  rw [List.take_of_length_le (by omega)] at hp
  exact Tx.rises_iff.2 hp

set_option maxRecDepth 20000 in
set_option maxHeartbeats 2000000 in
theorem refTrises_any (v : Value) (l : List Tx.Txn) (w : World) (hv : txsIn w v l) (hn : l.length ≤ 1000000) :
    Calls Tryz.prog 47 #[v] w fun e w' => e = .returned (.bool (Tx.rises l)) ∧ Below w.heap.size w w' := by
  obtain ⟨ao, c, rfl, _, _, hc⟩ := hv
  have HC : Hid (∀ k (h : k < l.length), ∃ ad ov, ao = some ad ∧ TcAt w (ad.add (k * 6)) l[k] ov ∧ opsIn w ov l[k].ops) := hc
  clear hc
  obtain ⟨m, hm⟩ : ∃ m, m = l.length := ⟨_, rfl⟩
  have HM : Hid (m = l.length) := hm
  have HS : Hid (Tx.Rises (l.take 1)) := by have h := rises_one l; exact h
  rw [← hm] at hn ⊢
  clear hm
  go_enter Tryz.func47, Tryz.ntmps47
  go_wp2
  go_loopw [3] (fun i wr => ∃ h : Nat, 1 ≤ h ∧ (h = 1 ∨ h ≤ m) ∧ i = .int .i64 h ∧ Hid (Tx.Rises (l.take h)) ∧ Below w.heap.size w wr) (fun i _ => m - (intOf i).toNat)
  case atStart => exact ⟨1, by omega, .inl rfl, rfl, HS, Below.refl _ _⟩
  case round =>
    clear HS
    obtain ⟨h, hge, hle, rfl, HS, hbw⟩ := hrel
    by_cases hlt : h < m
    · obtain ⟨j, hj⟩ : ∃ j, h = j + 1 := ⟨h - 1, by omega⟩
      have HJ : Hid (h = j + 1) := hj
      have hsub : (h : Int) - 1 = (j : Int) := by omega
      have hkx : h < l.length := by have := HM.out; omega
      have hjx : j < l.length := by omega
      obtain ⟨ad, ov, rfl, hA, -⟩ := HC.out j hjx
      obtain ⟨ad', ov', e, hB, -⟩ := HC.out h hkx
      obtain rfl : ad = ad' := Option.some.inj e
      obtain ⟨c0, c1, -, -, -, -⟩ := hA.on hbw
      obtain ⟨d0, d1, -, -, -, -⟩ := hB.on hbw
      have hi0 : (0 : Int) ≤ (j : Int) := by omega
      have hi1 : (j : Int) < (m : Int) := by omega
      have hi2 : (0 : Int) ≤ (h : Int) := by omega
      have hi3 : (h : Int) < (m : Int) := by omega
      have hwr : IntKind.i64.wrap ((h : Int) - 1) = (j : Int) := by rw [hsub]; simp [IntKind.wrap, IntKind.bits, IntKind.signed]; omega
      have hwj : IntKind.i64.wrap (j : Int) = (j : Int) := by simp [IntKind.wrap, IntKind.bits, IntKind.signed]; omega
      have HQ := fun W => D.refComp_any l[j].d.1 l[j].d.2 l[h].d.1 l[h].d.2 W
      clear hA hB e
      by_cases hl : Tx.dlt l[j].d l[h].d
      · have HS' : Hid (Tx.Rises (l.take (h + 1))) := by
          have k := Tx.rises_step HS.out hkx (.inr ⟨by omega, by
            have e : h - 1 = j := by omega
            simp only [e]
            exact hl⟩)
          exact k
        have hz : Dt.comp l[j].d.1 l[j].d.2 l[h].d.1 l[h].d.2 = -1 := (Tx.dcomp_neg _ _).2 hl
        rw [hz] at HQ
        clear hz hl HS hj hge hle
        generalize l[j] = x at *
        generalize l[h] = y at *
        go_wp2
        go_region_held3 (fun W => W.cell? (ad.add (j * 6)) = some (.int .i64 x.d.1) ∧ W.cell? ⟨(ad.add (j * 6)).block, (ad.add (j * 6)).off + 1, none⟩ = some (.int .i64 x.d.2) ∧ W.cell? (ad.add (h * 6)) = some (.int .i64 y.d.1) ∧ W.cell? ⟨(ad.add (h * 6)).block, (ad.add (h * 6)).off + 1, none⟩ = some (.int .i64 y.d.2) ∧ Below wr.heap.size wr W)
          (first | exact ⟨c0, c1, d0, d1, (Below.refl _ _).drew⟩ | go_keep | (refine ⟨keep_cell hb ?_, keep_cell hb ?_, keep_cell hb ?_, keep_cell hb ?_, bchain ?_ hb⟩ <;> go_keep))
          (first | (go_at_call 66; refine (HQ _).mono ?_; rintro e w1 ⟨rfl, hb⟩))
        have hbx : Below wr.heap.size wr w1 := bchain (Below.refl _ _).drew hb
        go_wp2
        go_roundw
        case rel => exact ⟨h + 1, by omega, .inr (by omega), by go_num, HS', bchain hbw hbx⟩
        case measure => simp [intOf]; omega
      · have HL : Hid (Tx.rises l = false) := by
          have k : Tx.rises l = false := Tx.not_rises (k := j) (by omega) (by
            have e : j + 1 = h := by omega
            simp only [e]
            exact hl)
          exact k
        have hz : ¬ Dt.comp l[j].d.1 l[j].d.2 l[h].d.1 l[h].d.2 = -1 := fun q => hl ((Tx.dcomp_neg _ _).1 q)
        have hz0 : (0 : Int) ≤ Dt.comp l[j].d.1 l[j].d.2 l[h].d.1 l[h].d.2 := by
          have := Dt.comp_cases l[j].d.1 l[j].d.2 l[h].d.1 l[h].d.2
          omega
        clear hl HS hj hge hle
        generalize Dt.comp l[j].d.1 l[j].d.2 l[h].d.1 l[h].d.2 = z at *
        generalize l[j] = x at *
        generalize l[h] = y at *
        have hzb : (z != -1) = true := by simpa using hz
        clear hz
        go_wp2
        go_region_held3 (fun W => W.cell? (ad.add (j * 6)) = some (.int .i64 x.d.1) ∧ W.cell? ⟨(ad.add (j * 6)).block, (ad.add (j * 6)).off + 1, none⟩ = some (.int .i64 x.d.2) ∧ W.cell? (ad.add (h * 6)) = some (.int .i64 y.d.1) ∧ W.cell? ⟨(ad.add (h * 6)).block, (ad.add (h * 6)).off + 1, none⟩ = some (.int .i64 y.d.2) ∧ Below wr.heap.size wr W)
          (first | exact ⟨c0, c1, d0, d1, (Below.refl _ _).drew⟩ | go_keep | (refine ⟨keep_cell hb ?_, keep_cell hb ?_, keep_cell hb ?_, keep_cell hb ?_, bchain ?_ hb⟩ <;> go_keep))
          (first | (go_at_call 66; refine (HQ _).mono ?_; rintro e w1 ⟨rfl, hb⟩))
        have hbx : Below wr.heap.size wr w1 := bchain (Below.refl _ _).drew hb
        go_wp2
        go_ret
        exact ⟨ret_bool HL.out.symm, bchain hbw hbx⟩
    · have HL : Hid (Tx.rises l = true) := by
        have k := rises_all HS.out (by have := HM.out; omega)
        exact k
      clear hle
      go_wp2
      go_ret
      exact ⟨ret_bool HL.out.symm, hbw⟩
end Go.Proofs.YtmnehekcealjhaaGreat.O
/- The walk of the document's Short of a transaction. -/
namespace Go.Proofs.YtmnehekcealjhaaGreat.O
open Go.RowKit

/-- So many have it. -/
def allTo {α : Type} (f : α → Bool) (l : List α) (k : Nat) : Prop := ∀ x ∈ l.take k, f x = true
theorem allTo_zero {α : Type} (f : α → Bool) (l : List α) : allTo f l 0 := fun x h => by simp at h
theorem allTo_step {α : Type} {f : α → Bool} {l : List α} {k : Nat} (h : allTo f l k) (hk : k < l.length) (he : f l[k] = true) : allTo f l (k + 1) := by
  intro x hx
  rw [List.take_succ_eq_append_getElem hk, List.mem_append, List.mem_singleton] at hx
  rcases hx with hx | rfl
  · exact h x hx
  · exact he
theorem allTo_end {α : Type} {f : α → Bool} {l : List α} {k : Nat} (h : allTo f l k) (hk : ¬ k < l.length) : l.all f = true := by
  unfold allTo at h
  rw [List.take_of_length_le (by omega)] at h
  exact List.all_eq_true.2 h
theorem all_not {α : Type} {f : α → Bool} {l : List α} {k : Nat} (hk : k < l.length) (he : f l[k] = false) : l.all f = false := by
  cases e : l.all f with
  | false => rfl
  | true => rw [List.all_eq_true.1 e _ (List.getElem_mem hk)] at he; cases he

set_option maxRecDepth 20000 in
set_option maxHeartbeats 2000000 in
theorem tshort_any (t : Tx.Txn) (ov : Value) (w : World) (hw : txWide t) (ho : opsIn w ov t.ops) :
    Calls Tryz.prog 48 #[txV t ov] w fun e w' => e = .returned (.bool (tshort t)) ∧ Below w.heap.size w w' := by
  obtain ⟨ao, cap, rfl⟩ := ho.slice
  obtain ⟨m, hm⟩ : ∃ m, m = t.ops.length := ⟨_, rfl⟩
  have HM : Hid (m = t.ops.length) := hm
  rw [← hm] at ho ⊢
  have HO : Hid (opsIn w (.slice ao m cap) t.ops) := ho
  have HW : Hid (txWide t) := hw
  have B0 := below_new w (txO t (.slice ao m cap))
  have O0 := TAt.new w t (.slice ao m cap)
  obtain ⟨W0, hW0⟩ : ∃ W0, W0 = w.alloc (txO t (.slice ao m cap)) := ⟨_, rfl⟩
  clear ho hw
  by_cases h20 : m ≤ 20
  rotate_left
  · rw [show tshort t = false by unfold tshort; rw [decide_eq_false (by omega)]; rfl]
    have h20' : ¬ (m : Int) ≤ 20 := by omega
    have h20'' : (20 : Int) < (m : Int) := by omega
    clear hm hW0
    go_enter Tryz.func48, Tryz.ntmps48
    go_wp2
    go_ret
    exact ⟨rfl, B0⟩
  have h20' : (m : Int) ≤ 20 := by omega
  have h20'' : ¬ (20 : Int) < (m : Int) := by omega
  have HT : Hid (tshort t = t.ops.all Os.short) := by
    have h : tshort t = t.ops.all Os.short := by unfold tshort; rw [decide_eq_true (by omega)]; rfl
    exact h
  rw [HT.out]
  rw [← hW0] at B0 O0
  clear hm
  go_enter Tryz.func48, Tryz.ntmps48
  obtain ⟨c0, c1, c2, c3, c4, c5⟩ := id O0
  rw [hW0] at c0 c1 c2 c3 c4 c5
  go_wp2
  rw [← hW0]
  clear c0 c1 c2 c3 c4 c5 hW0
  go_loopw [3] (fun i wr => ∃ k : Nat, k ≤ m ∧ i = .int .i64 k ∧ Hid (allTo Os.short t.ops k) ∧ Below W0.heap.size W0 wr) (fun i _ => m - (intOf i).toNat)
  case atStart => exact ⟨0, by omega, rfl, by have h := allTo_zero Os.short t.ops; exact h, Below.refl _ _⟩
  case round =>
    obtain ⟨k, hk, rfl, HS, hbw⟩ := hrel
    obtain ⟨c0, c1, c2, c3, c4, c5⟩ := O0.on hbw
    by_cases hlt : k < m
    · have hkx : k < t.ops.length := by have := HM.out; omega
      obtain ⟨ad, pv, sv, rfl, hA, hp, hs⟩ := (HO.out.on (bchain B0 hbw)).get hkx
      obtain ⟨a0, a1, a2, a3, a4, a5, a6⟩ := hA
      have hwd := HW.out _ (List.getElem_mem hkx)
      have C := oshort _ pv sv wr hwd hp hs
      have hi0 : (0 : Int) ≤ (k : Int) := by omega
      have hi1 : (k : Int) < (m : Int) := by omega
      cases hq : Os.short t.ops[k] with
      | false =>
        have HL : Hid (t.ops.all Os.short = false) := by have h := all_not hkx hq; exact h
        rw [hq] at C
        clear hwd hq hp hs
        generalize t.ops[k] = x at *
        go_wp2_with (go_at_call 67; refine C.mono ?_; rintro e w1 ⟨rfl, hb1⟩)
        go_ret
        exact ⟨ret_bool HL.out.symm, bchain (bchain B0 hbw) hb1⟩
      | true =>
        have HS' : Hid (allTo Os.short t.ops (k + 1)) := by have h := allTo_step HS.out hkx hq; exact h
        rw [hq] at C
        clear hwd hq hp hs HS
        generalize t.ops[k] = x at *
        go_wp2_with (go_at_call 67; refine C.mono ?_; rintro e w1 ⟨rfl, hb1⟩)
        go_roundw
        case rel => exact ⟨k + 1, by omega, by go_num, HS', bchain hbw hb1⟩
        case measure => simp [intOf]; omega
    · have HL : Hid (t.ops.all Os.short = true) := by
        have h := allTo_end HS.out (by have := HM.out; omega)
        exact h
      go_wp2
      go_ret
      exact ⟨ret_bool HL.out.symm, bchain B0 hbw⟩
end Go.Proofs.YtmnehekcealjhaaGreat.O
/- The walks of Check of a transaction, both sides. -/
namespace Go.Proofs.YtmnehekcealjhaaGreat.O
open Go.RowKit

theorem opsErr_skip {th : Bool} {l : List Os.Op} {k : Nat} (hk : k < l.length) (h : Os.check l[k] = 0 ∨ (th = true ∧ Os.gone l[k] = true)) : Tx.opsErr th (l.drop k) = Tx.opsErr th (l.drop (k + 1)) := by
  rw [List.drop_eq_getElem_cons hk, Tx.opsErr, if_neg]
  rintro ⟨h1, h2⟩
  rcases h with h | h
  · exact h1 h
  · exact h2 h
theorem opsErr_hit {th : Bool} {l : List Os.Op} {k : Nat} (hk : k < l.length) (h : Os.check l[k] ≠ 0) (h2 : ¬ (th = true ∧ Os.gone l[k] = true)) : Tx.opsErr th (l.drop k) = Os.check l[k] := by
  rw [List.drop_eq_getElem_cons hk, Tx.opsErr, if_pos ⟨h, h2⟩]
theorem opsErr_end {th : Bool} {l : List Os.Op} {k : Nat} (hk : ¬ k < l.length) : Tx.opsErr th (l.drop k) = 0 := by
  rw [List.drop_eq_nil_of_le (by omega)]
  rfl
theorem ret_nat {a b : Nat} (h : a = b) : (Ending.returned (.int .i64 (a : Int))) = .returned (.int .i64 (b : Int)) := by rw [h]

end Go.Proofs.YtmnehekcealjhaaGreat.O
