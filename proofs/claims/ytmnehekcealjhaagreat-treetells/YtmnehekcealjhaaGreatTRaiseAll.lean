/- The walks of Seen and Raise, both sides · The walk of counting: those transactions that count. -/
import Derived.Test.YtmnehekcealjhaaGreatTSameAll
import Derived.Test.YtmnehekcealjhaaGreatTFil
/- The walks of Seen and Raise, both sides. -/
namespace Go.Proofs.YtmnehekcealjhaaGreat.T
open Go.Proofs.YtmnehekcealjhaaGreat.D
open Go.RowKit Go.Shelf

/-- Does a count count? -/
def seenZ (z : Int) : Bool := (z % 2 == 0)
theorem seenZ_not (z : Int) : seenZ (z + 1) = !seenZ z := by
  unfold seenZ
  rcases Int.emod_two_eq z with e | e
  · have : (z + 1) % 2 = 1 := by omega
    rw [e, this]; rfl
  · have : (z + 1) % 2 = 0 := by omega
    rw [e, this]; rfl
theorem seen_any (v : Value) (l : List U) (d : D) (w : World) (hv : cntsIn w v l) (hn : l.length ≤ 1000000) (hp : Ct.Std l) :
    Calls Tryz.prog 54 #[v, dV d] w fun e w' => e = .returned (.bool (seenZ (Ct.get l d))) ∧ Below w.heap.size w w' := by
  obtain ⟨W0, hW0⟩ : ∃ W0, W0 = w.alloc (.cells #[.int .i64 d.1, .int .i64 d.2] 55) := ⟨_, rfl⟩
  have hB0 : Below w.heap.size w W0 := by rw [hW0]; exact below_new _ _
  have HC := get_any v l d W0 (hv.on hB0) hn hp
  have hr := Ct.get_range hp d
  clear hv hp
  generalize Ct.get l d = z at *
  go_enter Tryz.func54, Tryz.ntmps54
  go_wp2_with (go_at_call 73; rw [← hW0]; refine HC.mono ?_; rintro e w1 ⟨rfl, hb1⟩)
  go_ret
  exact ⟨rfl, bchain hB0 hb1⟩
theorem refSeen_any (v : Value) (l : List U) (d : D) (w : World) (hv : cntsIn w v l) (hn : l.length ≤ 1000000) (hp : Ct.Std l) :
    Calls Tryz.prog 25 #[v, dV d] w fun e w' => e = .returned (.bool (seenZ (Ct.get l d))) ∧ Below w.heap.size w w' := by
  obtain ⟨W0, hW0⟩ : ∃ W0, W0 = w.alloc (.cells #[.int .i64 d.1, .int .i64 d.2] 55) := ⟨_, rfl⟩
  have hB0 : Below w.heap.size w W0 := by rw [hW0]; exact below_new _ _
  have HC := refGet_any v l d W0 hn (hv.on hB0)
  have hr := Ct.get_range hp d
  clear hv hp
  generalize Ct.get l d = z at *
  go_enter Tryz.func25, Tryz.ntmps25
  go_wp2_with (go_at_call 55; rw [← hW0]; refine HC.mono ?_; rintro e w1 ⟨rfl, hb1⟩)
  go_ret
  exact ⟨rfl, bchain hB0 hb1⟩
end Go.Proofs.YtmnehekcealjhaaGreat.T
/- The walk of counting: those transactions that count. -/
namespace Go.Proofs.YtmnehekcealjhaaGreat.O
open Go.RowKit

/-- Does a transaction count? -/
def seenD (u : List U) (d : D) : Bool := T.seenZ (Ct.get u d)
set_option maxRecDepth 20000 in
set_option maxHeartbeats 1000000 in
theorem notSeen_any (x : TE) (bb : Nat) (vu : Value) (u : List U) (w : World) (hc : w.cell? ⟨bb, 0, none⟩ = some vu) (hv : T.cntsIn w vu u) (hn : u.length ≤ 1000000) (hp : Ct.Std u) (hx : opsIn w x.2 x.1.ops) :
    Calls Tryz.prog 53 #[.agg (tcell x).toArray, .pointer (some ⟨bb, 0, none⟩)] w fun e w' => e = .returned (.bool (!seenD u x.1.d)) ∧ Below w.heap.size w w' := by
  show Calls Tryz.prog 53 #[txV x.1 x.2, .pointer (some ⟨bb, 0, none⟩)] w _
  obtain ⟨oo, oc, ho⟩ := hx.slice
  rw [ho]
  clear ho hx
  obtain ⟨W0, hW0⟩ : ∃ W0, W0 = w.alloc (txO x.1 (.slice oo x.1.ops.length oc)) := ⟨_, rfl⟩
  have hB0 : Below w.heap.size w W0 := by rw [hW0]; exact below_new _ _
  have HC := fun W (hb : Below W0.heap.size W0 W) => T.seen_any vu u x.1.d W (hv.on (bchain hB0 hb)) hn hp
  have hcb := keep_cell hB0 hc
  have T0 : TAt W0 w.heap.size x.1 (.slice oo x.1.ops.length oc) := by rw [hW0]; exact TAt.new w _ _
  obtain ⟨c0, c1, c2, c3, c4, c5⟩ := T0
  rw [hW0] at hcb
  obtain ⟨bo, cb, rfl, _, _, h9⟩ := hv
  clear h9 hp
  unfold seenD
  generalize T.seenZ (Ct.get u x.1.d) = q at *
  generalize u.length = n at *
  go_enter Tryz.func53, Tryz.ntmps53
  go_wp2_with (go_at_call 54; rw [← hW0]; refine (HC _ (Below.refl _ _)).mono ?_; rintro e w3 ⟨rfl, hb⟩)
  go_ret
  exact ⟨rfl, bchain hB0 hb⟩

set_option maxRecDepth 20000 in
set_option maxHeartbeats 1000000 in
theorem counting_any (v vu : Value) (xs : List TE) (u : List U) (w : World) (hv : txsE w v xs) (hu : T.cntsIn w vu u) (hn : xs.length ≤ 1000000) (hun : u.length ≤ 1000000) (hp : Ct.Std u) :
    Calls Tryz.prog 22 #[v, vu] w fun e w' => ∃ r, e = .returned r ∧ txsE w' r (xs.filter fun x => seenD u x.1.d) ∧ Below w.heap.size w w' := by
  obtain ⟨bo, cb, rfl, _, _, h9⟩ := id hu
  clear h9
  obtain ⟨W0, hW0⟩ : ∃ W0, W0 = w.alloc (.cells #[.slice bo u.length cb] 23) := ⟨_, rfl⟩
  have hB0 : Below w.heap.size w W0 := by rw [hW0]; exact below_new _ _
  have hbox : W0.cell? ⟨w.heap.size, 0, none⟩ = some (.slice bo u.length cb) := by rw [hW0]; simp
  have HC := tclone_any v xs W0 (hv.on hB0) hn
  have hops := (txsE_rows.1 (hv.on hB0)).2
  have HA : tAsks W0.heap.size W0 (.pointer (some ⟨w.heap.size, 0, none⟩)) xs (fun x => !seenD u x.1.d) := fun W x hx hW =>
    notSeen_any x w.heap.size _ u W (keep_cell hW hbox) ((hu.on hB0).on hW) hun hp ((hops x hx).on hW)
  have HD : ∀ r w1, w1.ownsRow W0.heap.size 57 6 r xs.length (tcells xs) → Below W0.heap.size W0 w1 → Calls Tryz.prog 51 #[r, .func (.func 53) #[] #[.pointer (some ⟨w.heap.size, 0, none⟩)]] w1 fun e w' => ∃ r, e = .returned r ∧ txsE w' r (xs.filter fun x => seenD u x.1.d) ∧ Below W0.heap.size W0 w' := fun r w1 own hb1 => by
    rcases id own.2 with ⟨rfl, h0⟩ | ⟨g, cap, cur, rfl, hbg, hg, r1, r2, r3, r4⟩
    · obtain rfl : xs = [] := List.eq_nil_of_length_eq_zero h0
      have HI := tindex_any (.slice none 0 0) [] W0 w1 W0.heap.size _ _ hb1 hb1.size ⟨none, 0, rfl, Nat.le_refl _, fun _ => rfl, fun j u hu => by simp at hu⟩ (by simp) HA
      have e9 : idxF (fun x : TE => !seenD u x.1.d) [] = -1 := rfl
      rw [e9] at HI
      clear own HA HC hops
      go_enter Tryz.func51, Tryz.ntmps51
      go_wp2_with (go_at_call 72; refine HI.mono ?_; rintro e w2 ⟨rfl, hb2⟩)
      go_ret
      exact ⟨_, rfl, ⟨none, 0, rfl, Nat.le_refl _, fun _ => rfl, fun j u hu => by simp [tcells] at hu, by simp⟩, bchain hb1 hb2⟩
    · obtain ⟨hO, h1, h2, h3, _⟩ := OwnR.of (f := tcell) (m := 6) tcell_len own
      refine (tdelete_any g cap xs W0.heap.size W0 w1 _ (fun x => seenD u x.1.d) hb1 hO (fun x hx => tcell_one (hops x hx)) hn h1 h2 h3 HA).mono ?_
      rintro e w2 ⟨rfl, hO2, hb2⟩
      refine ⟨_, rfl, txsE_rows.2 ⟨hO2.rows tcell_len (Nat.le_trans (List.length_filter_le _ _) h1), fun x hx => ?_⟩, hb2⟩
      exact (hops x (List.mem_filter.1 hx).1).on hb2
  clear HA hbox hv hu hops
  generalize u.length = n at *
  go_enter Tryz.func22, Tryz.ntmps22
  go_wp2_with (first | (go_at_call 52; rw [← hW0]; refine HC.mono ?_; rintro e w1 ⟨r, rfl, own, hb1⟩) | (go_at_call 51; refine (HD r w1 own hb1).mono ?_; rintro e w2 ⟨r2, rfl, hr2, hb2⟩))
  go_ret
  exact ⟨_, rfl, hr2, bchain hB0 hb2⟩
end Go.Proofs.YtmnehekcealjhaaGreat.O
