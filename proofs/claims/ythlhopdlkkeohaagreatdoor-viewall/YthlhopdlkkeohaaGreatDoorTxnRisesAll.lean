/- The walks of Rises, both sides · The walk of the document's Short of a transaction · The walks of Check of a transaction, both sides · The walks of Check of a transaction: the program's, behind checkOps, and the document's · The walks of Right, both sides; the document's one and Good. -/
import Derived.Test.YthlhopdlkkeohaaGreatDoorTLeavesAll
import Derived.Test.YthlhopdlkkeohaaGreatDoorOpWrapAll
import Derived.Test.YthlhopdlkkeohaaGreatDoorTMemAll
import Derived.BigQuiet
/- The walks of Rises, both sides. -/
namespace Go.Proofs.YthlhopdlkkeohaaGreatDoor.O
open Go.RowKit

theorem rises_one (l : List Tx.Txn) : Tx.Rises (l.take 1) := by
  cases l with
  | nil => exact List.Pairwise.nil
  | cons a r => exact List.pairwise_singleton _ _
theorem rises_all {l : List Tx.Txn} {h : Nat} (hp : Tx.Rises (l.take h)) (hh : ¬ h < l.length) : Tx.rises l = true := by
  rw [List.take_of_length_le (by omega)] at hp
  exact Tx.rises_iff.2 hp

set_option maxRecDepth 20000 in
set_option maxHeartbeats 2000000 in
theorem refTrises_any (v : Value) (l : List Tx.Txn) (w : World) (hv : txsIn w v l) (hn : l.length ≤ 1000000) :
    Calls Tryz.prog 60 #[v] w fun e w' => e = .returned (.bool (Tx.rises l)) ∧ Below w.heap.size w w' := by
  obtain ⟨ao, c, rfl, _, _, hc⟩ := hv
  have HC : Hid (∀ k (h : k < l.length), ∃ ad ov, ao = some ad ∧ TcAt w (ad.add (k * 6)) l[k] ov ∧ opsIn w ov l[k].ops) := hc
  clear hc
  obtain ⟨m, hm⟩ : ∃ m, m = l.length := ⟨_, rfl⟩
  have HM : Hid (m = l.length) := hm
  have HS : Hid (Tx.Rises (l.take 1)) := by have h := rises_one l; exact h
  rw [← hm] at hn ⊢
  clear hm
  go_enter Tryz.func60, Tryz.ntmps60
  go_wp2
  go_loopw [3] (fun i wr => ∃ h : Nat, 1 ≤ h ∧ (h = 1 ∨ h ≤ m) ∧ i = .int .i64 h ∧ Hid (Tx.Rises (l.take h)) ∧ Below w.heap.size w wr) (fun i _ => m - (intOf i).toNat)
  case atStart => exact ⟨1, by omega, .inl rfl, rfl, HS, Below.refl _ _⟩
  case round =>
    clear HS
    obtain ⟨h, hge, hle, rfl, HS, hbw⟩ := hrel
    by_cases hlt : h < m
    · obtain ⟨j, hj⟩ : ∃ j, h = j + 1 := ⟨h - 1, by omega⟩
      have HJ : Hid (h = j + 1) := hj
      have hsub : (h : Int) - 1 = (j : Int) := by omega
      have hkx : h < l.length := by have := HM.out; omega
      have hjx : j < l.length := by omega
      obtain ⟨ad, ov, rfl, hA, -⟩ := HC.out j hjx
      obtain ⟨ad', ov', e, hB, -⟩ := HC.out h hkx
      obtain rfl : ad = ad' := Option.some.inj e
      obtain ⟨c0, c1, -, -, -, -⟩ := hA.on hbw
      obtain ⟨d0, d1, -, -, -, -⟩ := hB.on hbw
      have hi0 : (0 : Int) ≤ (j : Int) := by omega
      have hi1 : (j : Int) < (m : Int) := by omega
      have hi2 : (0 : Int) ≤ (h : Int) := by omega
      have hi3 : (h : Int) < (m : Int) := by omega
      have hwr : IntKind.i64.wrap ((h : Int) - 1) = (j : Int) := by rw [hsub]; simp [IntKind.wrap, IntKind.bits, IntKind.signed]; omega
      have hwj : IntKind.i64.wrap (j : Int) = (j : Int) := by simp [IntKind.wrap, IntKind.bits, IntKind.signed]; omega
      have HQ := fun W => D.refComp_any l[j].d.1 l[j].d.2 l[h].d.1 l[h].d.2 W
      clear hA hB e
      by_cases hl : Tx.dlt l[j].d l[h].d
      · have HS' : Hid (Tx.Rises (l.take (h + 1))) := by
          have k := Tx.rises_step HS.out hkx (.inr ⟨by omega, by
            have e : h - 1 = j := by omega
            simp only [e]
            exact hl⟩)
          exact k
        have hz : Dt.comp l[j].d.1 l[j].d.2 l[h].d.1 l[h].d.2 = -1 := (Tx.dcomp_neg _ _).2 hl
        rw [hz] at HQ
        clear hz hl HS hj hge hle
        generalize l[j] = x at *
        generalize l[h] = y at *
        go_wp2
        go_region_held3 (fun W => W.cell? (ad.add (j * 6)) = some (.int .i64 x.d.1) ∧ W.cell? ⟨(ad.add (j * 6)).block, (ad.add (j * 6)).off + 1, none⟩ = some (.int .i64 x.d.2) ∧ W.cell? (ad.add (h * 6)) = some (.int .i64 y.d.1) ∧ W.cell? ⟨(ad.add (h * 6)).block, (ad.add (h * 6)).off + 1, none⟩ = some (.int .i64 y.d.2) ∧ Below wr.heap.size wr W)
          (first | exact ⟨c0, c1, d0, d1, (Below.refl _ _).drew⟩ | go_keep | (refine ⟨keep_cell hb ?_, keep_cell hb ?_, keep_cell hb ?_, keep_cell hb ?_, bchain ?_ hb⟩ <;> go_keep))
          (first | (go_at_call 100; refine (HQ _).mono ?_; rintro e w1 ⟨rfl, hb⟩))
        have hbx : Below wr.heap.size wr w1 := bchain (Below.refl _ _).drew hb
        go_wp2
        go_roundw
        case rel => exact ⟨h + 1, by omega, .inr (by omega), by go_num, HS', bchain hbw hbx⟩
        case measure => simp [intOf]; omega
      · have HL : Hid (Tx.rises l = false) := by
          have k : Tx.rises l = false := Tx.not_rises (k := j) (by omega) (by
            have e : j + 1 = h := by omega
            simp only [e]
            exact hl)
          exact k
        have hz : ¬ Dt.comp l[j].d.1 l[j].d.2 l[h].d.1 l[h].d.2 = -1 := fun q => hl ((Tx.dcomp_neg _ _).1 q)
        have hz0 : (0 : Int) ≤ Dt.comp l[j].d.1 l[j].d.2 l[h].d.1 l[h].d.2 := by
          have := Dt.comp_cases l[j].d.1 l[j].d.2 l[h].d.1 l[h].d.2
          omega
        clear hl HS hj hge hle
        generalize Dt.comp l[j].d.1 l[j].d.2 l[h].d.1 l[h].d.2 = z at *
        generalize l[j] = x at *
        generalize l[h] = y at *
        have hzb : (z != -1) = true := by simpa using hz
        clear hz
        go_wp2
        go_region_held3 (fun W => W.cell? (ad.add (j * 6)) = some (.int .i64 x.d.1) ∧ W.cell? ⟨(ad.add (j * 6)).block, (ad.add (j * 6)).off + 1, none⟩ = some (.int .i64 x.d.2) ∧ W.cell? (ad.add (h * 6)) = some (.int .i64 y.d.1) ∧ W.cell? ⟨(ad.add (h * 6)).block, (ad.add (h * 6)).off + 1, none⟩ = some (.int .i64 y.d.2) ∧ Below wr.heap.size wr W)
          (first | exact ⟨c0, c1, d0, d1, (Below.refl _ _).drew⟩ | go_keep | (refine ⟨keep_cell hb ?_, keep_cell hb ?_, keep_cell hb ?_, keep_cell hb ?_, bchain ?_ hb⟩ <;> go_keep))
          (first | (go_at_call 100; refine (HQ _).mono ?_; rintro e w1 ⟨rfl, hb⟩))
        have hbx : Below wr.heap.size wr w1 := bchain (Below.refl _ _).drew hb
        go_wp2
        go_ret
        exact ⟨ret_bool HL.out.symm, bchain hbw hbx⟩
    · have HL : Hid (Tx.rises l = true) := by
        have k := rises_all HS.out (by have := HM.out; omega)
        exact k
      clear hle
      go_wp2
      go_ret
      exact ⟨ret_bool HL.out.symm, hbw⟩
end Go.Proofs.YthlhopdlkkeohaaGreatDoor.O
/- The walk of the document's Short of a transaction. -/
namespace Go.Proofs.YthlhopdlkkeohaaGreatDoor.O
open Go.RowKit

/-- So many have it. -/
def allTo {α : Type} (f : α → Bool) (l : List α) (k : Nat) : Prop := ∀ x ∈ l.take k, f x = true
theorem allTo_zero {α : Type} (f : α → Bool) (l : List α) : allTo f l 0 := fun x h => by simp at h
theorem allTo_step {α : Type} {f : α → Bool} {l : List α} {k : Nat} (h : allTo f l k) (hk : k < l.length) (he : f l[k] = true) : allTo f l (k + 1) := by
  intro x hx
  rw [List.take_succ_eq_append_getElem hk, List.mem_append, List.mem_singleton] at hx
  rcases hx with hx | rfl
  · exact h x hx
  · exact he
theorem allTo_end {α : Type} {f : α → Bool} {l : List α} {k : Nat} (h : allTo f l k) (hk : ¬ k < l.length) : l.all f = true := by
  unfold allTo at h
  rw [List.take_of_length_le (by omega)] at h
  exact List.all_eq_true.2 h
theorem all_not {α : Type} {f : α → Bool} {l : List α} {k : Nat} (hk : k < l.length) (he : f l[k] = false) : l.all f = false := by
  cases e : l.all f with
  | false => rfl
  | true => rw [List.all_eq_true.1 e _ (List.getElem_mem hk)] at he; cases he

set_option maxRecDepth 20000 in
set_option maxHeartbeats 2000000 in
theorem tshort_any (t : Tx.Txn) (ov : Value) (w : World) (hw : txWide t) (ho : opsIn w ov t.ops) :
    Calls Tryz.prog 61 #[txV t ov] w fun e w' => e = .returned (.bool (tshort t)) ∧ Below w.heap.size w w' := by
  obtain ⟨ao, cap, rfl⟩ := ho.slice
  obtain ⟨m, hm⟩ : ∃ m, m = t.ops.length := ⟨_, rfl⟩
  have HM : Hid (m = t.ops.length) := hm
  rw [← hm] at ho ⊢
  have HO : Hid (opsIn w (.slice ao m cap) t.ops) := ho
  have HW : Hid (txWide t) := hw
  have B0 := below_new w (txO t (.slice ao m cap))
  have O0 := TAt.new w t (.slice ao m cap)
  obtain ⟨W0, hW0⟩ : ∃ W0, W0 = w.alloc (txO t (.slice ao m cap)) := ⟨_, rfl⟩
  clear ho hw
  by_cases h20 : m ≤ 20
  rotate_left
  · rw [show tshort t = false by unfold tshort; rw [decide_eq_false (by omega)]; rfl]
    have h20' : ¬ (m : Int) ≤ 20 := by omega
    have h20'' : (20 : Int) < (m : Int) := by omega
    clear hm hW0
    go_enter Tryz.func61, Tryz.ntmps61
    go_wp2
    go_ret
    exact ⟨rfl, B0⟩
  have h20' : (m : Int) ≤ 20 := by omega
  have h20'' : ¬ (20 : Int) < (m : Int) := by omega
  have HT : Hid (tshort t = t.ops.all Os.short) := by
    have h : tshort t = t.ops.all Os.short := by unfold tshort; rw [decide_eq_true (by omega)]; rfl
    exact h
  rw [HT.out]
  rw [← hW0] at B0 O0
  clear hm
  go_enter Tryz.func61, Tryz.ntmps61
  obtain ⟨c0, c1, c2, c3, c4, c5⟩ := id O0
  rw [hW0] at c0 c1 c2 c3 c4 c5
  go_wp2
  rw [← hW0]
  clear c0 c1 c2 c3 c4 c5 hW0
  go_loopw [3] (fun i wr => ∃ k : Nat, k ≤ m ∧ i = .int .i64 k ∧ Hid (allTo Os.short t.ops k) ∧ Below W0.heap.size W0 wr) (fun i _ => m - (intOf i).toNat)
  case atStart => exact ⟨0, by omega, rfl, by have h := allTo_zero Os.short t.ops; exact h, Below.refl _ _⟩
  case round =>
    obtain ⟨k, hk, rfl, HS, hbw⟩ := hrel
    obtain ⟨c0, c1, c2, c3, c4, c5⟩ := O0.on hbw
    by_cases hlt : k < m
    · have hkx : k < t.ops.length := by have := HM.out; omega
      obtain ⟨ad, pv, sv, rfl, hA, hp, hs⟩ := (HO.out.on (bchain B0 hbw)).get hkx
      obtain ⟨a0, a1, a2, a3, a4, a5, a6⟩ := hA
      have hwd := HW.out _ (List.getElem_mem hkx)
      have C := oshort _ pv sv wr hwd hp hs
      have hi0 : (0 : Int) ≤ (k : Int) := by omega
      have hi1 : (k : Int) < (m : Int) := by omega
      cases hq : Os.short t.ops[k] with
      | false =>
        have HL : Hid (t.ops.all Os.short = false) := by have h := all_not hkx hq; exact h
        rw [hq] at C
        clear hwd hq hp hs
        generalize t.ops[k] = x at *
        go_wp2_with (go_at_call 101; refine C.mono ?_; rintro e w1 ⟨rfl, hb1⟩)
        go_ret
        exact ⟨ret_bool HL.out.symm, bchain (bchain B0 hbw) hb1⟩
      | true =>
        have HS' : Hid (allTo Os.short t.ops (k + 1)) := by have h := allTo_step HS.out hkx hq; exact h
        rw [hq] at C
        clear hwd hq hp hs HS
        generalize t.ops[k] = x at *
        go_wp2_with (go_at_call 101; refine C.mono ?_; rintro e w1 ⟨rfl, hb1⟩)
        go_roundw
        case rel => exact ⟨k + 1, by omega, by go_num, HS', bchain hbw hb1⟩
        case measure => simp [intOf]; omega
    · have HL : Hid (t.ops.all Os.short = true) := by
        have h := allTo_end HS.out (by have := HM.out; omega)
        exact h
      go_wp2
      go_ret
      exact ⟨ret_bool HL.out.symm, bchain B0 hbw⟩
end Go.Proofs.YthlhopdlkkeohaaGreatDoor.O
/- The walks of Check of a transaction, both sides. -/
namespace Go.Proofs.YthlhopdlkkeohaaGreatDoor.O
open Go.RowKit

theorem opsErr_skip {th : Bool} {l : List Os.Op} {k : Nat} (hk : k < l.length) (h : Os.check l[k] = 0 ∨ (th = true ∧ Os.gone l[k] = true)) : Tx.opsErr th (l.drop k) = Tx.opsErr th (l.drop (k + 1)) := by
  rw [List.drop_eq_getElem_cons hk, Tx.opsErr, if_neg]
  rintro ⟨h1, h2⟩
  rcases h with h | h
  · exact h1 h
  · exact h2 h
theorem opsErr_hit {th : Bool} {l : List Os.Op} {k : Nat} (hk : k < l.length) (h : Os.check l[k] ≠ 0) (h2 : ¬ (th = true ∧ Os.gone l[k] = true)) : Tx.opsErr th (l.drop k) = Os.check l[k] := by
  rw [List.drop_eq_getElem_cons hk, Tx.opsErr, if_pos ⟨h, h2⟩]
theorem opsErr_end {th : Bool} {l : List Os.Op} {k : Nat} (hk : ¬ k < l.length) : Tx.opsErr th (l.drop k) = 0 := by
  rw [List.drop_eq_nil_of_le (by omega)]
  rfl
theorem ret_nat {a b : Nat} (h : a = b) : (Ending.returned (.int .i64 (a : Int))) = .returned (.int .i64 (b : Int)) := by rw [h]

end Go.Proofs.YthlhopdlkkeohaaGreatDoor.O
/- The walks of Check of a transaction: the program's, behind checkOps, and the document's. -/
namespace Go.Proofs.YthlhopdlkkeohaaGreatDoor.O
open Go.RowKit

theorem tck2 {t : Tx.Txn} (h : Dt.right t.d.1 t.d.2 = false ∨ t.u < 0 ∨ 7 < t.u ∨ t.t < 1 ∨ 1099511627776 < t.t) : Tx.check t = 2 := if_pos h
theorem tck11 {t : Tx.Txn} (h : ¬ (Dt.right t.d.1 t.d.2 = false ∨ t.u < 0 ∨ 7 < t.u ∨ t.t < 1 ∨ 1099511627776 < t.t)) (h2 : t.ops.length = 0) : Tx.check t = 11 := by unfold Tx.check; rw [if_neg h, if_pos h2]
theorem tck7 {t : Tx.Txn} (h : ¬ (Dt.right t.d.1 t.d.2 = false ∨ t.u < 0 ∨ 7 < t.u ∨ t.t < 1 ∨ 1099511627776 < t.t)) (h2 : t.ops.length ≠ 0) (h3 : 16 < t.ops.length) : Tx.check t = 7 := by unfold Tx.check; rw [if_neg h, if_neg h2, if_pos h3]
theorem tckops {t : Tx.Txn} (h : ¬ (Dt.right t.d.1 t.d.2 = false ∨ t.u < 0 ∨ 7 < t.u ∨ t.t < 1 ∨ 1099511627776 < t.t)) (h2 : t.ops.length ≠ 0) (h3 : ¬ 16 < t.ops.length) : Tx.check t = Tx.opsErr t.thin t.ops := by unfold Tx.check; rw [if_neg h, if_neg h2, if_neg h3]

set_option maxRecDepth 20000 in
set_option maxHeartbeats 4000000 in
theorem refTcheck_any (t : Tx.Txn) (ov : Value) (w : World) (hsh : ∀ o ∈ t.ops, Os.short o = true) (hn : t.ops.length ≤ 1000000) (ho : opsIn w ov t.ops) :
    Calls Tryz.prog 62 #[txV t ov] w fun e w' => e = .returned (.int .i64 (Tx.check t : Nat)) ∧ Below w.heap.size w w' := by
  obtain ⟨ao, cap, rfl⟩ := ho.slice
  obtain ⟨m, hm⟩ : ∃ m, m = t.ops.length := ⟨_, rfl⟩
  have HM : Hid (m = t.ops.length) := hm
  rw [← hm] at ho hn ⊢
  have HO : Hid (opsIn w (.slice ao m cap) t.ops) := ho
  have HW : Hid (∀ o ∈ t.ops, Os.short o = true) := hsh
  have HN : Hid (t.ops.length ≤ 1000000) := by rw [← hm]; exact hn
  have B0 := below_new w (txO t (.slice ao m cap))
  have O0 := TAt.new w t (.slice ao m cap)
  have C44 := fun W => D.refRight_any t.d.1 t.d.2 W
  clear ho hsh hm
  have K2 : Hid ((Dt.right t.d.1 t.d.2 = false ∨ t.u < 0 ∨ 7 < t.u ∨ t.t < 1 ∨ 1099511627776 < t.t) → Tx.check t = 2) := by have h := tck2 (t := t); exact h
  cases hr : Dt.right t.d.1 t.d.2 with
  | false =>
    rw [hr] at C44
    rw [K2.out (.inl hr)]
    clear K2 hr
    go_enter Tryz.func62, Tryz.ntmps62
    go_wp2_with (go_at_call 102; refine (C44 _).mono ?_; rintro e w1 ⟨rfl, hb1⟩; obtain ⟨c0, c1, c2, c3, c4, c5⟩ := O0.on hb1)
    go_ret
    exact ⟨rfl, bchain B0 hb1⟩
  | true =>
  rw [hr] at C44
  by_cases h1 : t.u < 0
  · rw [K2.out (.inr (.inl h1))]
    clear K2 hr
    go_enter Tryz.func62, Tryz.ntmps62
    go_wp2_with (go_at_call 102; refine (C44 _).mono ?_; rintro e w1 ⟨rfl, hb1⟩; obtain ⟨c0, c1, c2, c3, c4, c5⟩ := O0.on hb1)
    go_ret
    exact ⟨rfl, bchain B0 hb1⟩
  by_cases h2 : 7 < t.u
  · rw [K2.out (.inr (.inr (.inl h2)))]
    have h2a : (8 : Int) ≤ t.u := by omega
    clear K2 hr
    go_enter Tryz.func62, Tryz.ntmps62
    go_wp2_with (go_at_call 102; refine (C44 _).mono ?_; rintro e w1 ⟨rfl, hb1⟩; obtain ⟨c0, c1, c2, c3, c4, c5⟩ := O0.on hb1)
    go_ret
    exact ⟨rfl, bchain B0 hb1⟩
  have h2a : ¬ (8 : Int) ≤ t.u := by omega
  by_cases h3 : t.t < 1
  · rw [K2.out (.inr (.inr (.inr (.inl h3))))]
    clear K2 hr
    go_enter Tryz.func62, Tryz.ntmps62
    go_wp2_with (go_at_call 102; refine (C44 _).mono ?_; rintro e w1 ⟨rfl, hb1⟩; obtain ⟨c0, c1, c2, c3, c4, c5⟩ := O0.on hb1)
    go_ret
    exact ⟨rfl, bchain B0 hb1⟩
  by_cases h4 : 1099511627776 < t.t
  · rw [K2.out (.inr (.inr (.inr (.inr h4))))]
    clear K2 hr
    go_enter Tryz.func62, Tryz.ntmps62
    go_wp2_with (go_at_call 102; refine (C44 _).mono ?_; rintro e w1 ⟨rfl, hb1⟩; obtain ⟨c0, c1, c2, c3, c4, c5⟩ := O0.on hb1)
    go_ret
    exact ⟨rfl, bchain B0 hb1⟩
  have HQ : Hid (¬ (Dt.right t.d.1 t.d.2 = false ∨ t.u < 0 ∨ 7 < t.u ∨ t.t < 1 ∨ 1099511627776 < t.t)) := by
    have h : ¬ (Dt.right t.d.1 t.d.2 = false ∨ t.u < 0 ∨ 7 < t.u ∨ t.t < 1 ∨ 1099511627776 < t.t) := by
      rw [hr]
      rintro (h | h | h | h | h)
      · cases h
      · exact h1 h
      · exact h2 h
      · exact h3 h
      · exact h4 h
    exact h
  clear K2 hr
  by_cases h5 : m = 0
  · rw [show Tx.check t = 11 from tck11 HQ.out (by have := HM.out; omega)]
    subst h5
    clear HQ
    go_enter Tryz.func62, Tryz.ntmps62
    go_wp2_with (go_at_call 102; refine (C44 _).mono ?_; rintro e w1 ⟨rfl, hb1⟩; obtain ⟨c0, c1, c2, c3, c4, c5⟩ := O0.on hb1)
    go_ret
    exact ⟨rfl, bchain B0 hb1⟩
  have h5a : ((m : Int) == 0) = false := beq_eq_false_iff_ne.2 (by omega)
  by_cases h6 : 16 < m
  · rw [show Tx.check t = 7 from tck7 HQ.out (by have := HM.out; omega) (by have := HM.out; omega)]
    have h6a : (16 : Int) < (m : Int) := by omega
    clear HQ
    go_enter Tryz.func62, Tryz.ntmps62
    go_wp2_with (go_at_call 102; refine (C44 _).mono ?_; rintro e w1 ⟨rfl, hb1⟩; obtain ⟨c0, c1, c2, c3, c4, c5⟩ := O0.on hb1)
    go_ret
    exact ⟨rfl, bchain B0 hb1⟩
  have h6a : ¬ (16 : Int) < (m : Int) := by omega
  rw [show Tx.check t = Tx.opsErr t.thin t.ops from tckops HQ.out (by have := HM.out; omega) (by have := HM.out; omega)]
  clear HQ
  have HE : Hid (Tx.opsErr t.thin t.ops = Tx.opsErr t.thin (t.ops.drop 0)) := by
    have h : Tx.opsErr t.thin t.ops = Tx.opsErr t.thin (t.ops.drop 0) := by rw [List.drop_zero]
    exact h
  go_enter Tryz.func62, Tryz.ntmps62
  go_wp2_with (go_at_call 102; refine (C44 _).mono ?_; rintro e w1 ⟨rfl, hb1⟩; have O1 := O0.on hb1; obtain ⟨c0, c1, c2, c3, c4, c5⟩ := id O1)
  have B1 := bchain B0 hb1
  clear c0 c1 c2 c3 c4 c5 h1 h2 h2a h3 h4 h5a h6a C44 hb1 B0 O0
  go_loopw [3, 4] (fun i _ wr => ∃ k : Nat, k ≤ m ∧ i = .int .i64 k ∧ Hid (Tx.opsErr t.thin t.ops = Tx.opsErr t.thin (t.ops.drop k)) ∧ Below w1.heap.size w1 wr) (fun i _ _ => m - (intOf i).toNat)
  case atStart => exact ⟨0, by omega, rfl, HE, Below.refl _ _⟩
  case round =>
    clear HE
    obtain ⟨k, hk, rfl, HS, hbw⟩ := hrel
    obtain ⟨c0, c1, c2, c3, c4, c5⟩ := O1.on hbw
    by_cases hlt : k < m
    · have hkx : k < t.ops.length := by have := HM.out; omega
      obtain ⟨ad, pv, sv, rfl, hA, hp, hs⟩ := (HO.out.on (bchain B1 hbw)).get hkx
      obtain ⟨a0, a1, a2, a3, a4, a5, a6⟩ := id hA
      have hsh := HW.out _ (List.getElem_mem hkx)
      have hi0 : (0 : Int) ≤ (k : Int) := by omega
      have hi1 : (k : Int) < (m : Int) := by omega
      have Cc := orcheck _ pv sv wr hsh hp hs
      have Cg := fun W (hb : Below wr.heap.size wr W) => orgone _ pv sv W (U.strsAt_below hp hb (Nat.le_refl _)) (hs.on hb)
      have HK : Hid ((Os.check t.ops[k] = 0 ∨ (t.thin = true ∧ Os.gone t.ops[k] = true)) → Tx.opsErr t.thin t.ops = Tx.opsErr t.thin (t.ops.drop (k + 1))) := by
        have h : (Os.check t.ops[k] = 0 ∨ (t.thin = true ∧ Os.gone t.ops[k] = true)) → Tx.opsErr t.thin t.ops = Tx.opsErr t.thin (t.ops.drop (k + 1)) := fun h => HS.out.trans (opsErr_skip hkx h)
        exact h
      have HH : Hid (Os.check t.ops[k] ≠ 0 → ¬ (t.thin = true ∧ Os.gone t.ops[k] = true) → Tx.opsErr t.thin t.ops = Os.check t.ops[k]) := by
        have h : Os.check t.ops[k] ≠ 0 → ¬ (t.thin = true ∧ Os.gone t.ops[k] = true) → Tx.opsErr t.thin t.ops = Os.check t.ops[k] := fun h h2 => HS.out.trans (opsErr_hit hkx h h2)
        exact h
      clear hsh hp hs HS
      generalize t.ops[k] = x at *
      by_cases hc : Os.check x = 0
      · have HE : Hid (Tx.opsErr t.thin t.ops = Tx.opsErr t.thin (t.ops.drop (k + 1))) := by have h := HK.out (.inl hc); exact h
        rw [hc] at Cc
        clear HK HH hc Cg
        go_wp2_with (go_at_call 103; refine Cc.mono ?_; rintro e w2 ⟨rfl, hb2⟩)
        go_roundw
        case rel => exact ⟨k + 1, by omega, by go_num, HE, bchain hbw hb2⟩
        case measure => simp [intOf]; omega
      · have hc1 : ((Os.check x : Nat) : Int) ≠ 0 := by omega
        have hc2 : (((Os.check x : Nat) : Int) != 0) = true := by simpa using hc1
        obtain hth | hth : t.thin = false ∨ t.thin = true := by cases t.thin <;> simp
        · have HE : Hid (Tx.opsErr t.thin t.ops = Os.check x) := by have h := HH.out hc (by rw [hth]; simp); exact h
          have O2 := O1.on hbw
          clear HK HH hc hc1 Cg c0 c1 c2 c3 c4 c5
          obtain ⟨b0, b1, b2, b3, b4, b5⟩ := id O2
          generalize Os.check x = q at *
          go_wp2_with (go_at_call 103; refine Cc.mono ?_; rintro e w2 ⟨rfl, hb2⟩; obtain ⟨c0, c1, c2, c3, c4, c5⟩ := O2.on hb2; rw [hth] at c4)
          go_ret
          exact ⟨ret_nat HE.out.symm, bchain (bchain B1 hbw) hb2⟩
        · have O2 := O1.on hbw
          clear c0 c1 c2 c3 c4 c5
          obtain ⟨c0, c1, c2, c3, c4, c5⟩ := id O2
          cases hg : Os.gone x with
          | true =>
            have HE : Hid (Tx.opsErr t.thin t.ops = Tx.opsErr t.thin (t.ops.drop (k + 1))) := by have h := HK.out (.inr ⟨hth, hg⟩); exact h
            rw [hg] at Cg
            clear HK HH hg hc hc1
            generalize Os.check x = q at *
            go_wp2_with (first
              | (go_at_call 103; refine Cc.mono ?_; rintro e w2 ⟨rfl, hb2⟩; obtain ⟨d0, d1, d2, d3, d4, d5⟩ := O2.on hb2; rw [hth] at d4; obtain ⟨b0, b1, b2, b3, b4, b5, b6⟩ := hA.on hb2)
              | (go_at_call 104; refine (Cg _ hb2).mono ?_; rintro e w3 ⟨rfl, hb3⟩))
            go_roundw
            case rel => exact ⟨k + 1, by omega, by go_num, HE, bchain hbw (bchain hb2 hb3)⟩
            case measure => simp [intOf]; omega
          | false =>
            have HE : Hid (Tx.opsErr t.thin t.ops = Os.check x) := by have h := HH.out hc (by rw [hg]; simp); exact h
            rw [hg] at Cg
            clear HK HH hg hc hc1
            generalize Os.check x = q at *
            go_wp2_with (first
              | (go_at_call 103; refine Cc.mono ?_; rintro e w2 ⟨rfl, hb2⟩; obtain ⟨d0, d1, d2, d3, d4, d5⟩ := O2.on hb2; rw [hth] at d4; obtain ⟨b0, b1, b2, b3, b4, b5, b6⟩ := hA.on hb2)
              | (go_at_call 104; refine (Cg _ hb2).mono ?_; rintro e w3 ⟨rfl, hb3⟩))
            go_ret
            exact ⟨ret_nat HE.out.symm, bchain (bchain B1 hbw) (bchain hb2 hb3)⟩
    · have HE : Hid (Tx.opsErr t.thin t.ops = 0) := by
        have h := HS.out.trans (opsErr_end (by have := HM.out; omega))
        exact h
      go_wp2
      go_ret
      exact ⟨ret_nat HE.out.symm, bchain B1 hbw⟩
end Go.Proofs.YthlhopdlkkeohaaGreatDoor.O
/- The walks of Right, both sides; the document's one and Good. -/
namespace Go.Proofs.YthlhopdlkkeohaaGreatDoor.T
open Go.Proofs.YthlhopdlkkeohaaGreatDoor.D
open Go.RowKit

theorem one_any (u : U) (w : World) : Calls Tryz.prog 105 #[uV u] w fun e w' => e = .returned (.bool (Ct.ok u)) ∧ Below w.heap.size w w' := by
  obtain ⟨⟨r, n⟩, m⟩ := u
  have HC : ∀ w, Calls Tryz.prog 102 #[dotV r n] w fun e w' => e = .returned (.bool (Dt.right r n)) ∧ Below w.heap.size w w' := refRight_any r n
  have he : Ct.ok ((r, n), m) = (Dt.right r n && decide (1 ≤ m) && decide (m ≤ 64)) := rfl
  rw [he]
  clear he
  cases hq : Dt.right r n with
  | false =>
    rw [hq] at HC
    go_enter Tryz.func105, Tryz.ntmps105
    go_wp2_with (go_at_call 102; refine (HC _).mono ?_; rintro e w1 ⟨rfl, hb1⟩)
    go_ret
    exact ⟨rfl, bchain (below_new _ _) hb1⟩
  | true =>
    rw [hq] at HC
    by_cases h1 : 1 ≤ m
    · rw [decide_eq_true h1]
      by_cases h2 : m ≤ 64
      · rw [decide_eq_true h2]
        go_enter Tryz.func105, Tryz.ntmps105
        go_wp2_with (go_at_call 102; refine (HC _).mono ?_; rintro e w1 ⟨rfl, hb1⟩; have k0 := keep_cell hb1 (a := ⟨w.heap.size, 2, none⟩) (v := .int .i64 m) (by simp))
        go_ret
        exact ⟨rfl, bchain (below_new _ _) hb1⟩
      · rw [decide_eq_false h2]
        have h3 : decide (m ≤ 64) = false := decide_eq_false h2
        go_enter Tryz.func105, Tryz.ntmps105
        go_wp2_with (go_at_call 102; refine (HC _).mono ?_; rintro e w1 ⟨rfl, hb1⟩; have k0 := keep_cell hb1 (a := ⟨w.heap.size, 2, none⟩) (v := .int .i64 m) (by simp))
        go_ret
        exact ⟨rfl, bchain (below_new _ _) hb1⟩
    · rw [decide_eq_false h1]
      have h3 : decide (1 ≤ m) = false := decide_eq_false h1
      go_enter Tryz.func105, Tryz.ntmps105
      go_wp2_with (go_at_call 102; refine (HC _).mono ?_; rintro e w1 ⟨rfl, hb1⟩; have k0 := keep_cell hb1 (a := ⟨w.heap.size, 2, none⟩) (v := .int .i64 m) (by simp))
      go_ret
      exact ⟨rfl, bchain (below_new _ _) hb1⟩
end Go.Proofs.YthlhopdlkkeohaaGreatDoor.T
