/- The walks of slices.BinarySearchFunc, at dots, and of Has. -/
import Derived.Test.YtenfbjlmfdiniaaPuts
namespace Go.Proofs.Ytenfbjlmfdiniaa
open Go.RowKit Go.Shelf

/-- Where the search stands: all ahead of i are less, none from j on is. -/
def SInv (ds : List D) (d : D) (i j : Nat) : Prop := i ≤ j ∧ j ≤ ds.length ∧ (∀ k (h : k < ds.length), k < i → St.lt ds[k] d) ∧ (∀ k (h : k < ds.length), j ≤ k → ¬ St.lt ds[k] d)
theorem SInv.start (ds : List D) (d : D) : SInv ds d 0 ds.length := ⟨Nat.zero_le _, Nat.le_refl _, fun _ _ h => absurd h (Nat.not_lt_zero _), fun k h1 h2 => by omega⟩
theorem SInv.up {ds : List D} {d : D} {i j h : Nat} (hp : ds.Pairwise St.lt) (hI : SInv ds d i j) (h1 : i ≤ h) (h2 : h < j) (hh : h < ds.length) (hl : St.lt ds[h] d) : SInv ds d (h + 1) j := by
  refine ⟨by omega, hI.2.1, fun k hk hk1 => ?_, hI.2.2.2⟩
  by_cases e : k = h
  · subst e; exact hl
  · exact St.lt_trans (List.pairwise_iff_getElem.1 hp k h hk hh (by omega)) hl
theorem SInv.down {ds : List D} {d : D} {i j h : Nat} (hp : ds.Pairwise St.lt) (hI : SInv ds d i j) (h1 : i ≤ h) (h2 : h < j) (hh : h < ds.length) (hl : ¬ St.lt ds[h] d) : SInv ds d i h := by
  refine ⟨h1, by omega, hI.2.2.1, fun k hk hk1 hlt => ?_⟩
  by_cases e : k = h
  · subst e; exact hl hlt
  · exact hl (St.lt_trans (List.pairwise_iff_getElem.1 hp h k hh hk (by omega)) hlt)
theorem SInv.miss {ds : List D} {d : D} {i : Nat} (hI : SInv ds d i i) (hi : ¬ i < ds.length) : decide (d ∈ ds) = false := by
  apply decide_eq_false
  intro hm
  obtain ⟨k, hk, e⟩ := List.mem_iff_getElem.1 hm
  have := hI.2.2.1 k hk (by omega)
  rw [e] at this
  exact St.lt_irrefl _ this
theorem SInv.hit {ds : List D} {d : D} {i : Nat} (hp : ds.Pairwise St.lt) (hI : SInv ds d i i) (hi : i < ds.length) : decide (d ∈ ds) = decide (ds[i] = d) := by
  rw [Bool.eq_iff_iff, decide_eq_true_iff, decide_eq_true_iff]
  constructor
  · intro hm
    obtain ⟨k, hk, e⟩ := List.mem_iff_getElem.1 hm
    by_cases h1 : k < i
    · have := hI.2.2.1 k hk h1
      rw [e] at this
      exact absurd this (St.lt_irrefl _)
    · by_cases h2 : k = i
      · subst h2; exact e
      · have h3 := List.pairwise_iff_getElem.1 hp i k hi hk (by omega)
        rw [e] at h3
        exact absurd h3 (hI.2.2.2 i hi (Nat.le_refl _))
  · intro e
    rw [← e]
    exact List.getElem_mem hi
theorem cf_lt (x y : D) : decide (Dt.comp x.1 x.2 y.1 y.2 < 0) = decide (St.lt x y) := by
  have h := ltD x y
  unfold ltOf cfD at h
  rw [h]
theorem cf_eq (x y : D) : decide (Dt.comp x.1 x.2 y.1 y.2 = 0) = decide (x = y) := by
  obtain ⟨a, b⟩ := x
  obtain ⟨c, d⟩ := y
  rcases Dt.comp_cases a b c d with ⟨h, e⟩ | ⟨h1, h2, e⟩ | ⟨h, e⟩ <;> simp only [e]
  · symm; rw [show decide ((-1 : Int) = 0) = false from rfl, decide_eq_false_iff_not]; intro k; cases k; omega
  · subst h1 h2; simp
  · symm; rw [show decide ((1 : Int) = 0) = false from rfl, decide_eq_false_iff_not]; intro k; cases k; omega

theorem ret_pair {x : Value} {a b : Bool} (h : a = b) : Ending.returned (.tuple #[x, .bool a]) = .returned (.tuple #[x, .bool b]) := by rw [h]

set_option maxRecDepth 20000 in
set_option maxHeartbeats 400000 in
theorem search_any (v : Value) (ds : List D) (d : D) (w : World) (hv : dotsIn w v ds) (hn : ds.length ≤ 1000000) (hp : ds.Pairwise St.lt) :
    Calls Try.prog 50 #[v, dV d, .func (.func 47) #[] #[]] w fun e w' => ∃ i : Int, e = .returned (.tuple #[.int .i64 i, .bool (decide (d ∈ ds))]) ∧ Below w.heap.size w w' := by
  obtain ⟨ao, c, rfl, _, hc⟩ := hv
  obtain ⟨W0, hW0⟩ : ∃ W0, W0 = w.alloc (.cells #[.int .i64 d.1, .int .i64 d.2] 28) := ⟨_, rfl⟩
  have hB0 : Below w.heap.size w W0 := by rw [hW0]; exact below_new _ _
  have hd0 : W0.cell? ⟨w.heap.size, 0, none⟩ = some (.int .i64 d.1) := by rw [hW0]; simp
  have hd1 : W0.cell? ⟨w.heap.size, 1, none⟩ = some (.int .i64 d.2) := by rw [hW0]; simp
  have HC : Hid (∀ k (h : k < ds.length), ∃ ad, ao = some ad ∧ w.cell? (ad.add (k * 2)) = some (.int .i64 (ds[k]).1) ∧ w.cell? ⟨(ad.add (k * 2)).block, (ad.add (k * 2)).off + 1, none⟩ = some (.int .i64 (ds[k]).2)) := hc
  have HP : Hid (ds.Pairwise St.lt) := hp
  clear hc hp
  obtain ⟨n, hn0⟩ : ∃ n, n = ds.length := ⟨_, rfl⟩
  have HN : Hid (n = ds.length) := hn0
  have HS : Hid (SInv ds d 0 n) := by have h := SInv.start ds d; rw [← hn0] at h; exact h
  rw [← hn0] at hn ⊢
  clear hn0
  go_enter Try.func50, Try.ntmps50
  go_wp2
  rw [← hW0]
  clear hW0
  go_loopw [9, 10, 11] (fun a b _ wr => ∃ i j : Nat, a = .int .i64 i ∧ b = .int .i64 j ∧ i ≤ j ∧ j ≤ n ∧ Hid (SInv ds d i j) ∧ Below W0.heap.size W0 wr) (fun a b _ _ => (intOf b).toNat - (intOf a).toNat)
  case atStart => exact ⟨0, n, rfl, rfl, by omega, by omega, HS, Below.refl _ _⟩
  case round =>
    clear HS
    obtain ⟨i, j, rfl, rfl, hij, hjn, HS, hbw⟩ := hrel
    by_cases hlt : i < j
    · obtain ⟨h, hh⟩ : ∃ h : Nat, h = (i + j) / 2 := ⟨_, rfl⟩
      have hh1 : i ≤ h := by omega
      have hh2 : h < j := by omega
      have hhd : h < ds.length := by have := HN.out; omega
      obtain ⟨ad, rfl, c0, c1⟩ := HC.out h hhd
      have c0 := keep_cell (bchain hB0 hbw) c0
      have c1 := keep_cell (bchain hB0 hbw) c1
      have e0 := keep_cell hbw hd0
      have e1 := keep_cell hbw hd1
      have hshr : ((i : Int) + (j : Int)) / 2 = (h : Int) := by omega
      have hi0 : (0 : Int) ≤ (h : Int) := by omega
      have hi1 : (h : Int) < (n : Int) := by omega
      clear hh
      have HQ := fun W => comp_any (ds[h]).1 (ds[h]).2 d.1 d.2 W
      have hz := cf_lt ds[h] d
      by_cases hl : St.lt ds[h] d
      · have HS' : Hid (SInv ds d (h + 1) j) := by have k := HS.out.up HP.out hh1 hh2 hhd hl; exact k
        rw [decide_eq_true hl] at hz
        have hz' : Dt.comp (ds[h]).1 (ds[h]).2 d.1 d.2 < 0 := of_decide_eq_true hz
        clear hz hl HS
        generalize Dt.comp (ds[h]).1 (ds[h]).2 d.1 d.2 = z at *
        generalize ds[h] = x at *
        go_wp2
        go_region_held3 (fun W => W.cell? (ad.add (h * 2)) = some (.int .i64 x.1) ∧ W.cell? ⟨(ad.add (h * 2)).block, (ad.add (h * 2)).off + 1, none⟩ = some (.int .i64 x.2) ∧ W.cell? ⟨w.heap.size, 0, none⟩ = some (.int .i64 d.1) ∧ W.cell? ⟨w.heap.size, 1, none⟩ = some (.int .i64 d.2) ∧ Below wr.heap.size wr W)
          (first | exact ⟨c0, c1, e0, e1, (Below.refl _ _).drew⟩ | go_keep | (refine ⟨keep_cell hb ?_, keep_cell hb ?_, keep_cell hb ?_, keep_cell hb ?_, bchain ?_ hb⟩ <;> go_keep))
          (first | (go_at_call 47; refine (HQ _).mono ?_; rintro e w1 ⟨rfl, hb⟩))
        have hbx : Below wr.heap.size wr w1 := bchain (Below.refl _ _).drew hb
        go_wp2
        go_roundw
        case rel => exact ⟨h + 1, j, by go_num, rfl, by omega, hjn, HS', bchain hbw hbx⟩
        case measure => simp [intOf]; omega
      · have HS' : Hid (SInv ds d i h) := by have k := HS.out.down HP.out hh1 hh2 hhd hl; exact k
        rw [decide_eq_false hl] at hz
        have hz' : ¬ Dt.comp (ds[h]).1 (ds[h]).2 d.1 d.2 < 0 := of_decide_eq_false hz
        clear hz hl HS
        generalize Dt.comp (ds[h]).1 (ds[h]).2 d.1 d.2 = z at *
        generalize ds[h] = x at *
        go_wp2
        go_region_held3 (fun W => W.cell? (ad.add (h * 2)) = some (.int .i64 x.1) ∧ W.cell? ⟨(ad.add (h * 2)).block, (ad.add (h * 2)).off + 1, none⟩ = some (.int .i64 x.2) ∧ W.cell? ⟨w.heap.size, 0, none⟩ = some (.int .i64 d.1) ∧ W.cell? ⟨w.heap.size, 1, none⟩ = some (.int .i64 d.2) ∧ Below wr.heap.size wr W)
          (first | exact ⟨c0, c1, e0, e1, (Below.refl _ _).drew⟩ | go_keep | (refine ⟨keep_cell hb ?_, keep_cell hb ?_, keep_cell hb ?_, keep_cell hb ?_, bchain ?_ hb⟩ <;> go_keep))
          (first | (go_at_call 47; refine (HQ _).mono ?_; rintro e w1 ⟨rfl, hb⟩))
        have hbx : Below wr.heap.size wr w1 := bchain (Below.refl _ _).drew hb
        go_wp2
        go_roundw
        case rel => exact ⟨i, h, rfl, rfl, hh1, by omega, HS', bchain hbw hbx⟩
        case measure => simp [intOf]; omega
    · obtain rfl : i = j := by omega
      by_cases hin : i < n
      · have hhd : i < ds.length := by have := HN.out; omega
        obtain ⟨ad, rfl, c0, c1⟩ := HC.out i hhd
        have c0 := keep_cell (bchain hB0 hbw) c0
        have c1 := keep_cell (bchain hB0 hbw) c1
        have e0 := keep_cell hbw hd0
        have e1 := keep_cell hbw hd1
        have HQ := fun W => comp_any (ds[i]).1 (ds[i]).2 d.1 d.2 W
        have HE : Hid (decide (d ∈ ds) = decide (Dt.comp (ds[i]).1 (ds[i]).2 d.1 d.2 = 0)) := by
          have k : decide (d ∈ ds) = decide (Dt.comp (ds[i]).1 (ds[i]).2 d.1 d.2 = 0) := by rw [HS.out.hit HP.out hhd, cf_eq]
          exact k
        have hi0 : (0 : Int) ≤ (i : Int) := by omega
        have hi1 : (i : Int) < (n : Int) := by omega
        generalize Dt.comp (ds[i]).1 (ds[i]).2 d.1 d.2 = z at *
        generalize ds[i] = x at *
        go_wp2
        go_region_held3 (fun W => W.cell? (ad.add (i * 2)) = some (.int .i64 x.1) ∧ W.cell? ⟨(ad.add (i * 2)).block, (ad.add (i * 2)).off + 1, none⟩ = some (.int .i64 x.2) ∧ W.cell? ⟨w.heap.size, 0, none⟩ = some (.int .i64 d.1) ∧ W.cell? ⟨w.heap.size, 1, none⟩ = some (.int .i64 d.2) ∧ Below wr.heap.size wr W)
          (first | exact ⟨c0, c1, e0, e1, (Below.refl _ _).drew⟩ | go_keep | (refine ⟨keep_cell hb ?_, keep_cell hb ?_, keep_cell hb ?_, keep_cell hb ?_, bchain ?_ hb⟩ <;> go_keep))
          (first | (go_at_call 47; refine (HQ _).mono ?_; rintro e w1 ⟨rfl, hb⟩))
        have hbx : Below wr.heap.size wr w1 := bchain (Below.refl _ _).drew hb
        go_wp2
        go_ret2
        refine ⟨_, ret_pair ?_, bchain (bchain hB0 hbw) hbx⟩
        rw [HE.out]
        by_cases e : z = 0
        · subst e; rfl
        · rw [decide_eq_false e]; exact beq_eq_false_iff_ne.2 e
      · have HE : Hid (decide (d ∈ ds) = false) := by
          have k := HS.out.miss (by have := HN.out; omega)
          exact k
        have hin' : ¬ (i : Int) < (n : Int) := by omega
        go_wp2
        go_region
        all_goals
          go_wp2
          go_ret2
          exact ⟨_, ret_pair HE.out.symm, (bchain hB0 hbw).drew⟩
end Go.Proofs.Ytenfbjlmfdiniaa
