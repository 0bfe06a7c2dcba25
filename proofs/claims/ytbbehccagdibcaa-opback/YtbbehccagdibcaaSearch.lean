/- The walk of slices.BinarySearchFunc over references that rise, by dot.Refs. -/
import Derived.Test.YtbbehccagdibcaaStepsR
import Derived.Shelf.Abstract
namespace Go.Proofs.Ytbbehccagdibcaa.O
open Go.RowKit Go.Shelf

theorem cmpR_any (x y : U) (w : World) : Calls Try.prog 38 #[uV x, uV y] w fun e w' => e = .returned (.int .i64 (Os.comp x y)) ∧ Below w.heap.size w w' := D.refs_any x.1.1 x.1.2 x.2 y.1.1 y.1.2 y.2 w
theorem refCmpR_any (x y : U) (w : World) : Calls Try.prog 40 #[uV x, uV y] w fun e w' => e = .returned (.int .i64 (Os.comp x y)) ∧ Below w.heap.size w w' := D.refRefs_any x.1.1 x.1.2 x.2 y.1.1 y.1.2 y.2 w

/-- Where the search stands: all ahead of i are less, none from j on is. -/
def SInv (l : List U) (d : U) (i j : Nat) : Prop := i ≤ j ∧ j ≤ l.length ∧ (∀ k (h : k < l.length), k < i → Os.lt l[k] d) ∧ (∀ k (h : k < l.length), j ≤ k → ¬ Os.lt l[k] d)
theorem SInv.start (l : List U) (d : U) : SInv l d 0 l.length := ⟨Nat.zero_le _, Nat.le_refl _, fun _ _ h => absurd h (Nat.not_lt_zero _), fun k h1 h2 => by omega⟩
theorem SInv.up {l : List U} {d : U} {i j h : Nat} (hp : Os.Ups l) (hI : SInv l d i j) (h1 : i ≤ h) (h2 : h < j) (hh : h < l.length) (hl : Os.lt l[h] d) : SInv l d (h + 1) j := by
  refine ⟨by omega, hI.2.1, fun k hk hk1 => ?_, hI.2.2.2⟩
  by_cases e : k = h
  · subst e; exact hl
  · exact Os.lt_trans (List.pairwise_iff_getElem.1 hp.2 k h hk hh (by omega)) hl
theorem SInv.down {l : List U} {d : U} {i j h : Nat} (hp : Os.Ups l) (hI : SInv l d i j) (h1 : i ≤ h) (h2 : h < j) (hh : h < l.length) (hl : ¬ Os.lt l[h] d) : SInv l d i h := by
  refine ⟨h1, by omega, hI.2.2.1, fun k hk hk1 hlt => ?_⟩
  by_cases e : k = h
  · subst e; exact hl hlt
  · exact hl (Os.lt_trans (List.pairwise_iff_getElem.1 hp.2 h k hh hk (by omega)) hlt)
/-- Is it among them? -/
def hasR (l : List U) (d : U) : Bool := decide (d ∈ l)
theorem SInv.miss {l : List U} {d : U} {i : Nat} (hI : SInv l d i i) (hi : ¬ i < l.length) : hasR l d = false := by
  refine decide_eq_false fun hu => ?_
  obtain ⟨k, hk, e⟩ := List.mem_iff_getElem.1 hu
  have := hI.2.2.1 k hk (by omega)
  rw [e] at this
  exact Os.lt_irrefl _ this
theorem SInv.hit {l : List U} {d : U} {i : Nat} (hp : Os.Ups l) (hI : SInv l d i i) (hi : i < l.length) : hasR l d = decide (l[i] = d) := by
  by_cases e : l[i] = d
  · rw [decide_eq_true e]
    exact decide_eq_true (by rw [← e]; exact List.getElem_mem hi)
  · rw [decide_eq_false e]
    refine decide_eq_false fun hu => ?_
    obtain ⟨k, hk, q⟩ := List.mem_iff_getElem.1 hu
    by_cases h1 : k < i
    · have := hI.2.2.1 k hk h1
      rw [q] at this
      exact Os.lt_irrefl _ this
    · by_cases h2 : k = i
      · subst h2; exact e q
      · have h3 := List.pairwise_iff_getElem.1 hp.2 i k hi hk (by omega)
        rw [q] at h3
        exact hI.2.2.2 i hi (Nat.le_refl _) h3
theorem ret_pair {x : Value} {a b : Bool} (h : a = b) : Ending.returned (.tuple #[x, .bool a]) = .returned (.tuple #[x, .bool b]) := by rw [h]

set_option maxRecDepth 20000 in
set_option maxHeartbeats 1000000 in
theorem search_any (v : Value) (l : List U) (d : U) (w : World) (hv : refsIn w v l) (hn : l.length ≤ 1000000) (hp : Os.Ups l) :
    Calls Try.prog 44 #[v, uV d, .func (.func 38) #[] #[]] w fun e w' => ∃ i : Nat, e = .returned (.tuple #[.int .i64 (i : Int), .bool (hasR l d)]) ∧ Below w.heap.size w w' := by
  obtain ⟨ao, c, rfl, _, _, hc⟩ := hv
  obtain ⟨W0, hW0⟩ : ∃ W0, W0 = w.alloc (.cells #[.int .i64 d.1.1, .int .i64 d.1.2, .int .i64 d.2] 31) := ⟨_, rfl⟩
  have hB0 : Below w.heap.size w W0 := by rw [hW0]; exact below_new _ _
  have hd0 : W0.cell? ⟨w.heap.size, 0, none⟩ = some (.int .i64 d.1.1) := by rw [hW0]; simp
  have hd1 : W0.cell? ⟨w.heap.size, 1, none⟩ = some (.int .i64 d.1.2) := by rw [hW0]; simp
  have hd2 : W0.cell? ⟨w.heap.size, 2, none⟩ = some (.int .i64 d.2) := by rw [hW0]; simp
  have HC : Hid (∀ k (h : k < l.length), ∃ ad, ao = some ad ∧ CAt w (ad.add (k * 3)) l[k]) := hc
  have HP : Hid (Os.Ups l) := hp
  clear hc hp
  obtain ⟨n, hn0⟩ : ∃ n, n = l.length := ⟨_, rfl⟩
  have HN : Hid (n = l.length) := hn0
  have HS : Hid (SInv l d 0 n) := by have h := SInv.start l d; rw [← hn0] at h; exact h
  rw [← hn0] at hn ⊢
  clear hn0
  go_enter Try.func44, Try.ntmps44
  go_wp2
  rw [← hW0]
  clear hW0
  go_loopw [9, 10, 11] (fun a b _ wr => ∃ i j : Nat, a = .int .i64 i ∧ b = .int .i64 j ∧ i ≤ j ∧ j ≤ n ∧ Hid (SInv l d i j) ∧ Below W0.heap.size W0 wr) (fun a b _ _ => (intOf b).toNat - (intOf a).toNat)
  case atStart => exact ⟨0, n, rfl, rfl, by omega, by omega, HS, Below.refl _ _⟩
  case round =>
    clear HS
    obtain ⟨i, j, rfl, rfl, hij, hjn, HS, hbw⟩ := hrel
    by_cases hlt : i < j
    · obtain ⟨h, hh⟩ : ∃ h : Nat, h = (i + j) / 2 := ⟨_, rfl⟩
      have hh1 : i ≤ h := by omega
      have hh2 : h < j := by omega
      have hhd : h < l.length := by have := HN.out; omega
      obtain ⟨ad, rfl, hA⟩ := HC.out h hhd
      obtain ⟨c0, c1, c2⟩ := hA.on (bchain hB0 hbw)
      have e0 := keep_cell hbw hd0
      have e1 := keep_cell hbw hd1
      have e2 := keep_cell hbw hd2
      have hshr : ((i : Int) + (j : Int)) / 2 = (h : Int) := by omega
      have hi0 : (0 : Int) ≤ (h : Int) := by omega
      have hi1 : (h : Int) < (n : Int) := by omega
      clear hh hA
      have HQ := fun W => cmpR_any l[h] d W
      have hz := Os.cf_lt l[h] d
      by_cases hl : Os.lt l[h] d
      · have HS' : Hid (SInv l d (h + 1) j) := by have k := HS.out.up HP.out hh1 hh2 hhd hl; exact k
        rw [decide_eq_true hl] at hz
        have hz' : Os.comp l[h] d < 0 := of_decide_eq_true hz
        clear hz hl HS
        generalize Os.comp l[h] d = z at *
        generalize l[h] = x at *
        go_wp2
        go_region_held3 (fun W => W.cell? (ad.add (h * 3)) = some (.int .i64 x.1.1) ∧ W.cell? ⟨(ad.add (h * 3)).block, (ad.add (h * 3)).off + 1, none⟩ = some (.int .i64 x.1.2) ∧ W.cell? ⟨(ad.add (h * 3)).block, (ad.add (h * 3)).off + 2, none⟩ = some (.int .i64 x.2) ∧ W.cell? ⟨w.heap.size, 0, none⟩ = some (.int .i64 d.1.1) ∧ W.cell? ⟨w.heap.size, 1, none⟩ = some (.int .i64 d.1.2) ∧ W.cell? ⟨w.heap.size, 2, none⟩ = some (.int .i64 d.2) ∧ Below wr.heap.size wr W)
          (first | exact ⟨c0, c1, c2, e0, e1, e2, (Below.refl _ _).drew⟩ | go_keep | (refine ⟨keep_cell hb ?_, keep_cell hb ?_, keep_cell hb ?_, keep_cell hb ?_, keep_cell hb ?_, keep_cell hb ?_, bchain ?_ hb⟩ <;> go_keep))
          (first | (go_at_call 38; refine (HQ _).mono ?_; rintro e w1 ⟨rfl, hb⟩))
        have hbx : Below wr.heap.size wr w1 := bchain (Below.refl _ _).drew hb
        go_wp2
        go_roundw
        case rel => exact ⟨h + 1, j, by go_num, rfl, by omega, hjn, HS', bchain hbw hbx⟩
        case measure => simp [intOf]; omega
      · have HS' : Hid (SInv l d i h) := by have k := HS.out.down HP.out hh1 hh2 hhd hl; exact k
        rw [decide_eq_false hl] at hz
        have hz' : ¬ Os.comp l[h] d < 0 := of_decide_eq_false hz
        clear hz hl HS
        generalize Os.comp l[h] d = z at *
        generalize l[h] = x at *
        go_wp2
        go_region_held3 (fun W => W.cell? (ad.add (h * 3)) = some (.int .i64 x.1.1) ∧ W.cell? ⟨(ad.add (h * 3)).block, (ad.add (h * 3)).off + 1, none⟩ = some (.int .i64 x.1.2) ∧ W.cell? ⟨(ad.add (h * 3)).block, (ad.add (h * 3)).off + 2, none⟩ = some (.int .i64 x.2) ∧ W.cell? ⟨w.heap.size, 0, none⟩ = some (.int .i64 d.1.1) ∧ W.cell? ⟨w.heap.size, 1, none⟩ = some (.int .i64 d.1.2) ∧ W.cell? ⟨w.heap.size, 2, none⟩ = some (.int .i64 d.2) ∧ Below wr.heap.size wr W)
          (first | exact ⟨c0, c1, c2, e0, e1, e2, (Below.refl _ _).drew⟩ | go_keep | (refine ⟨keep_cell hb ?_, keep_cell hb ?_, keep_cell hb ?_, keep_cell hb ?_, keep_cell hb ?_, keep_cell hb ?_, bchain ?_ hb⟩ <;> go_keep))
          (first | (go_at_call 38; refine (HQ _).mono ?_; rintro e w1 ⟨rfl, hb⟩))
        have hbx : Below wr.heap.size wr w1 := bchain (Below.refl _ _).drew hb
        go_wp2
        go_roundw
        case rel => exact ⟨i, h, rfl, rfl, hh1, by omega, HS', bchain hbw hbx⟩
        case measure => simp [intOf]; omega
    · obtain rfl : i = j := by omega
      by_cases hin : i < n
      · have hhd : i < l.length := by have := HN.out; omega
        obtain ⟨ad, rfl, hA⟩ := HC.out i hhd
        obtain ⟨c0, c1, c2⟩ := hA.on (bchain hB0 hbw)
        have e0 := keep_cell hbw hd0
        have e1 := keep_cell hbw hd1
        have e2 := keep_cell hbw hd2
        have HQ := fun W => cmpR_any l[i] d W
        have HE' : Hid (hasR l d = decide (Os.comp l[i] d = 0)) := by
          have k : hasR l d = decide (Os.comp l[i] d = 0) := by rw [HS.out.hit HP.out hhd, Os.cf_eq]
          exact k
        have hi0 : (0 : Int) ≤ (i : Int) := by omega
        have hi1 : (i : Int) < (n : Int) := by omega
        clear hA
        generalize Os.comp l[i] d = z at HQ HE'
        generalize l[i] = x at c0 c1 c2 HQ
        go_wp2
        go_region_held3 (fun W => W.cell? (ad.add (i * 3)) = some (.int .i64 x.1.1) ∧ W.cell? ⟨(ad.add (i * 3)).block, (ad.add (i * 3)).off + 1, none⟩ = some (.int .i64 x.1.2) ∧ W.cell? ⟨(ad.add (i * 3)).block, (ad.add (i * 3)).off + 2, none⟩ = some (.int .i64 x.2) ∧ W.cell? ⟨w.heap.size, 0, none⟩ = some (.int .i64 d.1.1) ∧ W.cell? ⟨w.heap.size, 1, none⟩ = some (.int .i64 d.1.2) ∧ W.cell? ⟨w.heap.size, 2, none⟩ = some (.int .i64 d.2) ∧ Below wr.heap.size wr W)
          (first | exact ⟨c0, c1, c2, e0, e1, e2, (Below.refl _ _).drew⟩ | go_keep | (refine ⟨keep_cell hb ?_, keep_cell hb ?_, keep_cell hb ?_, keep_cell hb ?_, keep_cell hb ?_, keep_cell hb ?_, bchain ?_ hb⟩ <;> go_keep))
          (first | (go_at_call 38; refine (HQ _).mono ?_; rintro e w1 ⟨rfl, hb⟩))
        have hbx : Below wr.heap.size wr w1 := bchain (Below.refl _ _).drew hb
        go_wp2
        go_ret2
        refine ⟨_, ret_pair ?_, bchain (bchain hB0 hbw) hbx⟩
        rw [HE'.out]
        by_cases e : z = 0
        · subst e; rfl
        · rw [decide_eq_false e]; exact beq_eq_false_iff_ne.2 e
      · have HE : Hid (hasR l d = false) := by
          have k := HS.out.miss (by have := HN.out; omega)
          exact k
        have hin' : ¬ (i : Int) < (n : Int) := by omega
        go_wp2
        go_region
        all_goals
          go_wp2
          go_ret2
          exact ⟨_, ret_pair HE.out.symm, (bchain hB0 hbw).drew⟩
end Go.Proofs.Ytbbehccagdibcaa.O
