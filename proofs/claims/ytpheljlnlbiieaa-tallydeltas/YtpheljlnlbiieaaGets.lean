/- The walks of Get and Seen: the document's, the program's (slices.BinarySearchFunc). -/
import Derived.Test.YtpheljlnlbiieaaSame
import Derived.Test.YtpheljlnlbiieaaSteps
import Derived.Shelf.Abstract
namespace Go.Proofs.Ytpheljlnlbiieaa
open Go.RowKit Go.Shelf

/-- None of the first ones is the dot's. -/
def missTo (l : List U) (d : D) (k : Nat) : Prop := Ct.get l d = Ct.get (l.drop k) d
theorem missTo_zero (l : List U) (d : D) : missTo l d 0 := rfl
theorem missTo_step {l : List U} {d : D} {k : Nat} (h : missTo l d k) (hk : k < l.length) (he : ¬ (l[k]).1 = d) : missTo l d (k + 1) := by
  unfold missTo at *
  rw [h, List.drop_eq_getElem_cons hk, Ct.get, if_neg he]
theorem missTo_hit {l : List U} {d : D} {k : Nat} (h : missTo l d k) (hk : k < l.length) (he : (l[k]).1 = d) : Ct.get l d = (l[k]).2 := by
  unfold missTo at h
  rw [h, List.drop_eq_getElem_cons hk, Ct.get, if_pos he]
theorem missTo_end {l : List U} {d : D} {k : Nat} (h : missTo l d k) (hk : ¬ k < l.length) : Ct.get l d = 0 := by
  unfold missTo at h
  rw [h, List.drop_eq_nil_of_le (by omega), Ct.get]

set_option maxRecDepth 20000 in
set_option maxHeartbeats 2000000 in
theorem refGet_any (v : Value) (l : List U) (d : D) (w : World) (hn : l.length ≤ 1000000) (hv : cntsIn w v l) :
    Calls Try.prog 15 #[v, dV d] w fun e w' => e = .returned (.int .i64 (Ct.get l d)) ∧ Below w.heap.size w w' := by
  obtain ⟨ao, c, rfl, _, _, hc⟩ := hv
  obtain ⟨W0, hW0⟩ : ∃ W0, W0 = w.alloc (.cells #[.int .i64 d.1, .int .i64 d.2] 24) := ⟨_, rfl⟩
  have hB0 : Below w.heap.size w W0 := by rw [hW0]; exact below_new _ _
  have hd0 : DAt W0 w.heap.size d := by rw [hW0]; exact DAt.new w d
  go_enter Try.func15, Try.ntmps15
  go_wp2
  rw [← hW0]
  clear hW0
  go_loopw [5] (fun i wr => ∃ k : Nat, k ≤ l.length ∧ i = .int .i64 k ∧ missTo l d k ∧ Below W0.heap.size W0 wr) (fun i _ => l.length - (intOf i).toNat)
  case atStart => exact ⟨0, by omega, rfl, missTo_zero _ _, Below.refl _ _⟩
  case round =>
    obtain ⟨k, hk, rfl, hS, hbw⟩ := hrel
    obtain ⟨e0, e1⟩ := hd0.on hbw
    by_cases hlt : k < l.length
    · obtain ⟨ad, rfl, hA⟩ := hc k hlt
      obtain ⟨hA1, hA2, hA3⟩ := hA.on (bchain hB0 hbw)
      clear hc hA
      have hE := eql_dot (l[k]).1 d
      by_cases he : (l[k]).1 = d
      · have HL : Hid (Ct.get l d = (l[k]).2) := by
          have h := missTo_hit hS hlt he
          exact h
        simp only [he, decide_true] at hE
        rw [he] at hA1 hA2
        generalize (l[k]).2 = x at *
        go_wp2
        go_region
        all_goals
          go_wp2
          go_ret
          exact ⟨ret_int HL.out.symm, bchain hB0 hbw.drew⟩
      · have HS := missTo_step hS hlt he
        simp only [he, decide_false] at hE
        generalize l[k] = x at *
        go_wp2
        go_region
        all_goals
          go_wp2
          go_roundw
          case rel => exact ⟨k + 1, by omega, by go_num, HS, hbw.drew⟩
          case measure => simp [intOf]; omega
    · have HL : Hid (Ct.get l d = 0) := by
        have h := missTo_end hS hlt
        exact h
      go_wp2
      go_ret
      exact ⟨ret_int HL.out.symm, bchain hB0 hbw⟩

theorem cmpU_any (u : U) (d : D) (w : World) : Calls Try.prog 42 #[uV u, dV d] w fun e w' => e = .returned (.int .i64 (Dt.comp u.1.1 u.1.2 d.1 d.2)) ∧ Below w.heap.size w w' := by
  obtain ⟨⟨r, n⟩, m⟩ := u
  obtain ⟨r', n'⟩ := d
  have HC := fun w => comp_any r n r' n' w
  show Calls Try.prog 42 #[.agg #[.int .i64 r, .int .i64 n, .int .i64 m], dotV r' n'] w fun e w' => e = .returned (.int .i64 (Dt.comp r n r' n')) ∧ Below w.heap.size w w'
  generalize Dt.comp r n r' n' = z at *
  go_enter Try.func42, Try.ntmps42
  go_wp2_with (go_at_call 38; refine (HC _).mono ?_; rintro e w1 ⟨rfl, hb1⟩)
  go_ret
  exact ⟨rfl, bchain (below_new2 _ _ _) hb1⟩

/-- Where the search stands: all ahead of i are less, none from j on is. -/
def SInv (l : List U) (d : D) (i j : Nat) : Prop := i ≤ j ∧ j ≤ l.length ∧ (∀ k (h : k < l.length), k < i → Ct.lt (l[k]).1 d) ∧ (∀ k (h : k < l.length), j ≤ k → ¬ Ct.lt (l[k]).1 d)
theorem SInv.start (l : List U) (d : D) : SInv l d 0 l.length := ⟨Nat.zero_le _, Nat.le_refl _, fun _ _ h => absurd h (Nat.not_lt_zero _), fun k h1 h2 => by omega⟩
theorem SInv.up {l : List U} {d : D} {i j h : Nat} (hp : Ct.Std l) (hI : SInv l d i j) (h1 : i ≤ h) (h2 : h < j) (hh : h < l.length) (hl : Ct.lt (l[h]).1 d) : SInv l d (h + 1) j := by
  refine ⟨by omega, hI.2.1, fun k hk hk1 => ?_, hI.2.2.2⟩
  by_cases e : k = h
  · subst e; exact hl
  · exact Ct.lt_trans (List.pairwise_iff_getElem.1 hp.2 k h hk hh (by omega)) hl
theorem SInv.down {l : List U} {d : D} {i j h : Nat} (hp : Ct.Std l) (hI : SInv l d i j) (h1 : i ≤ h) (h2 : h < j) (hh : h < l.length) (hl : ¬ Ct.lt (l[h]).1 d) : SInv l d i h := by
  refine ⟨h1, by omega, hI.2.2.1, fun k hk hk1 hlt => ?_⟩
  by_cases e : k = h
  · subst e; exact hl hlt
  · exact hl (Ct.lt_trans (List.pairwise_iff_getElem.1 hp.2 h k hh hk (by omega)) hlt)
/-- Is there a count of it? -/
def hasD (l : List U) (d : D) : Bool := decide (Ct.get l d ≠ 0)
/-- Where it is found, it stands. -/
def hitAt (l : List U) (d : D) (i : Nat) : Prop := hasD l d = true → ∃ h : i < l.length, (l[i]).1 = d
theorem SInv.miss {l : List U} {d : D} {i : Nat} (hI : SInv l d i i) (hi : ¬ i < l.length) : hasD l d = false := by
  have h : Ct.get l d = 0 := Ct.get_none fun u hu e => by
    obtain ⟨k, hk, rfl⟩ := List.mem_iff_getElem.1 hu
    have := hI.2.2.1 k hk (by omega)
    rw [e] at this
    exact Ct.lt_irrefl _ this
  simp [hasD, h]
theorem SInv.hit {l : List U} {d : D} {i : Nat} (hp : Ct.Std l) (hI : SInv l d i i) (hi : i < l.length) : hasD l d = decide ((l[i]).1 = d) := by
  by_cases e : (l[i]).1 = d
  · have h1 := Ct.get_at hp i hi
    have h2 := (Ct.ok_iff.1 (hp.1 _ (List.getElem_mem hi))).2
    rw [e] at h1
    rw [decide_eq_true e, hasD, decide_eq_true]
    omega
  · have h : Ct.get l d = 0 := Ct.get_none fun u hu q => by
      obtain ⟨k, hk, rfl⟩ := List.mem_iff_getElem.1 hu
      by_cases h1 : k < i
      · have := hI.2.2.1 k hk h1
        rw [q] at this
        exact Ct.lt_irrefl _ this
      · by_cases h2 : k = i
        · subst h2; exact e q
        · have h3 := List.pairwise_iff_getElem.1 hp.2 i k hi hk (by omega)
          rw [q] at h3
          exact hI.2.2.2 i hi (Nat.le_refl _) h3
    simp [hasD, h, e]
theorem cf_lt (x y : D) : decide (Dt.comp x.1 x.2 y.1 y.2 < 0) = decide (Ct.lt x y) := by
  obtain ⟨a, b⟩ := x
  obtain ⟨c, d⟩ := y
  rcases Dt.comp_cases a b c d with ⟨h, e⟩ | ⟨h1, h2, e⟩ | ⟨h, e⟩ <;> simp only [e]
  · symm; rw [show decide ((-1 : Int) < 0) = true from rfl, decide_eq_true_iff]; exact h
  · symm; rw [show decide ((0 : Int) < 0) = false from rfl, decide_eq_false_iff_not]; subst h1 h2; exact Ct.lt_irrefl _
  · symm; rw [show decide ((1 : Int) < 0) = false from rfl, decide_eq_false_iff_not]; simp only [Ct.lt]; omega
theorem cf_eq (x y : D) : decide (Dt.comp x.1 x.2 y.1 y.2 = 0) = decide (x = y) := by
  obtain ⟨a, b⟩ := x
  obtain ⟨c, d⟩ := y
  rcases Dt.comp_cases a b c d with ⟨h, e⟩ | ⟨h1, h2, e⟩ | ⟨h, e⟩ <;> simp only [e]
  · symm; rw [show decide ((-1 : Int) = 0) = false from rfl, decide_eq_false_iff_not]; intro k; cases k; omega
  · subst h1 h2; simp
  · symm; rw [show decide ((1 : Int) = 0) = false from rfl, decide_eq_false_iff_not]; intro k; cases k; omega
theorem ret_pair {x : Value} {a b : Bool} (h : a = b) : Ending.returned (.tuple #[x, .bool a]) = .returned (.tuple #[x, .bool b]) := by rw [h]

set_option maxRecDepth 20000 in
set_option maxHeartbeats 400000 in
theorem search_any (v : Value) (l : List U) (d : D) (w : World) (hv : cntsIn w v l) (hn : l.length ≤ 1000000) (hp : Ct.Std l) :
    Calls Try.prog 41 #[v, dV d, .func (.func 42) #[] #[]] w fun e w' => ∃ i : Nat, e = .returned (.tuple #[.int .i64 (i : Int), .bool (hasD l d)]) ∧ hitAt l d i ∧ Below w.heap.size w w' := by
  obtain ⟨ao, c, rfl, _, _, hc⟩ := hv
  obtain ⟨W0, hW0⟩ : ∃ W0, W0 = w.alloc (.cells #[.int .i64 d.1, .int .i64 d.2] 24) := ⟨_, rfl⟩
  have hB0 : Below w.heap.size w W0 := by rw [hW0]; exact below_new _ _
  have hd0 : W0.cell? ⟨w.heap.size, 0, none⟩ = some (.int .i64 d.1) := by rw [hW0]; simp
  have hd1 : W0.cell? ⟨w.heap.size, 1, none⟩ = some (.int .i64 d.2) := by rw [hW0]; simp
  have HC : Hid (∀ k (h : k < l.length), ∃ ad, ao = some ad ∧ CAt w (ad.add (k * 3)) l[k]) := hc
  have HP : Hid (Ct.Std l) := hp
  clear hc hp
  obtain ⟨n, hn0⟩ : ∃ n, n = l.length := ⟨_, rfl⟩
  have HN : Hid (n = l.length) := hn0
  have HS : Hid (SInv l d 0 n) := by have h := SInv.start l d; rw [← hn0] at h; exact h
  rw [← hn0] at hn ⊢
  clear hn0
  go_enter Try.func41, Try.ntmps41
  go_wp2
  rw [← hW0]
  clear hW0
  go_loopw [9, 10, 11] (fun a b _ wr => ∃ i j : Nat, a = .int .i64 i ∧ b = .int .i64 j ∧ i ≤ j ∧ j ≤ n ∧ Hid (SInv l d i j) ∧ Below W0.heap.size W0 wr) (fun a b _ _ => (intOf b).toNat - (intOf a).toNat)
  case atStart => exact ⟨0, n, rfl, rfl, by omega, by omega, HS, Below.refl _ _⟩
  case round =>
    clear HS
    obtain ⟨i, j, rfl, rfl, hij, hjn, HS, hbw⟩ := hrel
    by_cases hlt : i < j
    · obtain ⟨h, hh⟩ : ∃ h : Nat, h = (i + j) / 2 := ⟨_, rfl⟩
      have hh1 : i ≤ h := by omega
      have hh2 : h < j := by omega
      have hhd : h < l.length := by have := HN.out; omega
      obtain ⟨ad, rfl, hA⟩ := HC.out h hhd
      obtain ⟨c0, c1, c2⟩ := hA.on (bchain hB0 hbw)
      have e0 := keep_cell hbw hd0
      have e1 := keep_cell hbw hd1
      have hshr : ((i : Int) + (j : Int)) / 2 = (h : Int) := by omega
      have hi0 : (0 : Int) ≤ (h : Int) := by omega
      have hi1 : (h : Int) < (n : Int) := by omega
      clear hh hA
      have HQ := fun W => cmpU_any l[h] d W
      have hz := cf_lt (l[h]).1 d
      by_cases hl : Ct.lt (l[h]).1 d
      · have HS' : Hid (SInv l d (h + 1) j) := by have k := HS.out.up HP.out hh1 hh2 hhd hl; exact k
        rw [decide_eq_true hl] at hz
        have hz' : Dt.comp (l[h]).1.1 (l[h]).1.2 d.1 d.2 < 0 := of_decide_eq_true hz
        clear hz hl HS
        generalize Dt.comp (l[h]).1.1 (l[h]).1.2 d.1 d.2 = z at *
        generalize l[h] = x at *
        go_wp2
        go_region_held3 (fun W => W.cell? (ad.add (h * 3)) = some (.int .i64 x.1.1) ∧ W.cell? ⟨(ad.add (h * 3)).block, (ad.add (h * 3)).off + 1, none⟩ = some (.int .i64 x.1.2) ∧ W.cell? ⟨(ad.add (h * 3)).block, (ad.add (h * 3)).off + 2, none⟩ = some (.int .i64 x.2) ∧ W.cell? ⟨w.heap.size, 0, none⟩ = some (.int .i64 d.1) ∧ W.cell? ⟨w.heap.size, 1, none⟩ = some (.int .i64 d.2) ∧ Below wr.heap.size wr W)
          (first | exact ⟨c0, c1, c2, e0, e1, (Below.refl _ _).drew⟩ | go_keep | (refine ⟨keep_cell hb ?_, keep_cell hb ?_, keep_cell hb ?_, keep_cell hb ?_, keep_cell hb ?_, bchain ?_ hb⟩ <;> go_keep))
          (first | (go_at_call 42; refine (HQ _).mono ?_; rintro e w1 ⟨rfl, hb⟩))
        have hbx : Below wr.heap.size wr w1 := bchain (Below.refl _ _).drew hb
        go_wp2
        go_roundw
        case rel => exact ⟨h + 1, j, by go_num, rfl, by omega, hjn, HS', bchain hbw hbx⟩
        case measure => simp [intOf]; omega
      · have HS' : Hid (SInv l d i h) := by have k := HS.out.down HP.out hh1 hh2 hhd hl; exact k
        rw [decide_eq_false hl] at hz
        have hz' : ¬ Dt.comp (l[h]).1.1 (l[h]).1.2 d.1 d.2 < 0 := of_decide_eq_false hz
        clear hz hl HS
        generalize Dt.comp (l[h]).1.1 (l[h]).1.2 d.1 d.2 = z at *
        generalize l[h] = x at *
        go_wp2
        go_region_held3 (fun W => W.cell? (ad.add (h * 3)) = some (.int .i64 x.1.1) ∧ W.cell? ⟨(ad.add (h * 3)).block, (ad.add (h * 3)).off + 1, none⟩ = some (.int .i64 x.1.2) ∧ W.cell? ⟨(ad.add (h * 3)).block, (ad.add (h * 3)).off + 2, none⟩ = some (.int .i64 x.2) ∧ W.cell? ⟨w.heap.size, 0, none⟩ = some (.int .i64 d.1) ∧ W.cell? ⟨w.heap.size, 1, none⟩ = some (.int .i64 d.2) ∧ Below wr.heap.size wr W)
          (first | exact ⟨c0, c1, c2, e0, e1, (Below.refl _ _).drew⟩ | go_keep | (refine ⟨keep_cell hb ?_, keep_cell hb ?_, keep_cell hb ?_, keep_cell hb ?_, keep_cell hb ?_, bchain ?_ hb⟩ <;> go_keep))
          (first | (go_at_call 42; refine (HQ _).mono ?_; rintro e w1 ⟨rfl, hb⟩))
        have hbx : Below wr.heap.size wr w1 := bchain (Below.refl _ _).drew hb
        go_wp2
        go_roundw
        case rel => exact ⟨i, h, rfl, rfl, hh1, by omega, HS', bchain hbw hbx⟩
        case measure => simp [intOf]; omega
    · obtain rfl : i = j := by omega
      by_cases hin : i < n
      · have hhd : i < l.length := by have := HN.out; omega
        obtain ⟨ad, rfl, hA⟩ := HC.out i hhd
        obtain ⟨c0, c1, c2⟩ := hA.on (bchain hB0 hbw)
        have e0 := keep_cell hbw hd0
        have e1 := keep_cell hbw hd1
        have HQ := fun W => cmpU_any l[i] d W
        have HE : Hid (hasD l d = decide (Dt.comp (l[i]).1.1 (l[i]).1.2 d.1 d.2 = 0) ∧ (hasD l d = true → (l[i]).1 = d)) := by
          have k : hasD l d = decide (Dt.comp (l[i]).1.1 (l[i]).1.2 d.1 d.2 = 0) := by rw [HS.out.hit HP.out hhd, cf_eq]
          have k2 : hasD l d = true → (l[i]).1 = d := fun q => by rw [HS.out.hit HP.out hhd] at q; exact of_decide_eq_true q
          exact (⟨k, k2⟩ : hasD l d = decide (Dt.comp (l[i]).1.1 (l[i]).1.2 d.1 d.2 = 0) ∧ (hasD l d = true → (l[i]).1 = d))
        have hi0 : (0 : Int) ≤ (i : Int) := by omega
        have hi1 : (i : Int) < (n : Int) := by omega
        clear hA
        have HX : Hid (hitAt l d i) := by
          have k : hitAt l d i := fun q => ⟨hhd, HE.out.2 q⟩
          exact k
        have HE' : Hid (hasD l d = decide (Dt.comp (l[i]).1.1 (l[i]).1.2 d.1 d.2 = 0)) := HE.out.1
        clear HE
        generalize Dt.comp (l[i]).1.1 (l[i]).1.2 d.1 d.2 = z at HQ HE'
        generalize l[i] = x at c0 c1 c2 HQ
        go_wp2
        go_region_held3 (fun W => W.cell? (ad.add (i * 3)) = some (.int .i64 x.1.1) ∧ W.cell? ⟨(ad.add (i * 3)).block, (ad.add (i * 3)).off + 1, none⟩ = some (.int .i64 x.1.2) ∧ W.cell? ⟨(ad.add (i * 3)).block, (ad.add (i * 3)).off + 2, none⟩ = some (.int .i64 x.2) ∧ W.cell? ⟨w.heap.size, 0, none⟩ = some (.int .i64 d.1) ∧ W.cell? ⟨w.heap.size, 1, none⟩ = some (.int .i64 d.2) ∧ Below wr.heap.size wr W)
          (first | exact ⟨c0, c1, c2, e0, e1, (Below.refl _ _).drew⟩ | go_keep | (refine ⟨keep_cell hb ?_, keep_cell hb ?_, keep_cell hb ?_, keep_cell hb ?_, keep_cell hb ?_, bchain ?_ hb⟩ <;> go_keep))
          (first | (go_at_call 42; refine (HQ _).mono ?_; rintro e w1 ⟨rfl, hb⟩))
        have hbx : Below wr.heap.size wr w1 := bchain (Below.refl _ _).drew hb
        go_wp2
        go_ret2
        refine ⟨_, ret_pair ?_, HX.out, bchain (bchain hB0 hbw) hbx⟩
        rw [HE'.out]
        by_cases e : z = 0
        · subst e; rfl
        · rw [decide_eq_false e]; exact beq_eq_false_iff_ne.2 e
      · have HE : Hid (hasD l d = false) := by
          have k := HS.out.miss (by have := HN.out; omega)
          exact k
        have hin' : ¬ (i : Int) < (n : Int) := by omega
        go_wp2
        go_region
        all_goals
          go_wp2
          go_ret2
          exact ⟨_, ret_pair HE.out.symm, fun q => absurd (HE.out.symm.trans q) (by decide), (bchain hB0 hbw).drew⟩

set_option maxRecDepth 20000 in
theorem get_any (v : Value) (l : List U) (d : D) (w : World) (hv : cntsIn w v l) (hn : l.length ≤ 1000000) (hp : Ct.Std l) :
    Calls Try.prog 14 #[v, dV d] w fun e w' => e = .returned (.int .i64 (Ct.get l d)) ∧ Below w.heap.size w w' := by
  obtain ⟨W0, hW0⟩ : ∃ W0, W0 = w.alloc (.cells #[.int .i64 d.1, .int .i64 d.2] 24) := ⟨_, rfl⟩
  have hB0 : Below w.heap.size w W0 := by rw [hW0]; exact below_new _ _
  have HC := search_any v l d W0 (hv.on hB0) hn hp
  cases hq : hasD l d with
  | false =>
    rw [hq] at HC
    have hz : Ct.get l d = 0 := by simpa [hasD] using hq
    rw [hz]
    clear hz hq
    go_enter Try.func14, Try.ntmps14
    go_wp2_with (go_at_call 41; rw [← hW0]; refine HC.mono ?_; rintro e w1 ⟨i, rfl, _, hb1⟩)
    go_ret
    exact ⟨rfl, bchain hB0 hb1⟩
  | true =>
    have HQ : Hid (hasD l d = true) := hq
    rw [hq] at HC
    have HP : Hid (Ct.Std l) := hp
    clear hq hp
    obtain ⟨ao, c, rfl, hc1, hc2, hc⟩ := hv
    have HV : Hid (∀ k (h : k < l.length), ∃ ad, ao = some ad ∧ CAt w (ad.add (k * 3)) l[k]) := hc
    clear hc
    obtain ⟨n, hn0⟩ : ∃ n, n = l.length := ⟨_, rfl⟩
    have HN : Hid (n = l.length) := hn0
    rw [← hn0] at HC ⊢
    clear hn0
    go_enter Try.func14, Try.ntmps14
    go_wp2_with (go_at_call 41; rw [← hW0]; refine HC.mono ?_; rintro e w1 ⟨i, rfl, hx, hb1⟩; obtain ⟨hi, hxd⟩ := hx HQ.out; obtain ⟨ad, rfl, hA⟩ := HV.out i hi; obtain ⟨c0, c1, c2⟩ := hA.on (bchain hB0 hb1); have HG : Hid (Ct.get l d = (l[i]).2) := (by have k : Ct.get l d = (l[i]).2 := (by rw [← hxd]; exact Ct.get_at HP.out i hi); exact k); have hi0 : (0 : Int) ≤ (i : Int) := (by omega); have hi1 : (i : Int) < (n : Int) := (by have := HN.out; omega); clear hA hxd; generalize (l[i]).2 = x at *)
    go_ret
    exact ⟨ret_int HG.out.symm, bchain hB0 hb1⟩
end Go.Proofs.Ytpheljlnlbiieaa
