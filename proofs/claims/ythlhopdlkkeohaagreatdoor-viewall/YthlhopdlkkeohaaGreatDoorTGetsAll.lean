/- The walks of Get and Seen: the document's, the program's (slices.BinarySearchFunc) · The walks of Seen and Raise, both sides · The walk of counting: those transactions that count · The walk of the document's Covered: does a transaction that counts cover it?. -/
import Derived.Test.YthlhopdlkkeohaaGreatDoorTMemAll
import Derived.Shelf.Abstract
import Derived.Test.YthlhopdlkkeohaaGreatDoorOpWrapAll
import Derived.Test.YthlhopdlkkeohaaGreatDoorThinsAll
/- The walks of Get and Seen: the document's, the program's (slices.BinarySearchFunc). -/
namespace Go.Proofs.YthlhopdlkkeohaaGreatDoor.T
open Go.Proofs.YthlhopdlkkeohaaGreatDoor.D
open Go.RowKit Go.Shelf

/-- None of the first ones is the dot's. -/
def missTo (l : List U) (d : D) (k : Nat) : Prop := Ct.get l d = Ct.get (l.drop k) d
theorem missTo_zero (l : List U) (d : D) : missTo l d 0 := rfl
theorem missTo_step {l : List U} {d : D} {k : Nat} (h : missTo l d k) (hk : k < l.length) (he : ¬ (l[k]).1 = d) : missTo l d (k + 1) := by
  unfold missTo at *
  rw [h, List.drop_eq_getElem_cons hk, Ct.get, if_neg he]
theorem missTo_hit {l : List U} {d : D} {k : Nat} (h : missTo l d k) (hk : k < l.length) (he : (l[k]).1 = d) : Ct.get l d = (l[k]).2 := by
  unfold missTo at h
  rw [h, List.drop_eq_getElem_cons hk, Ct.get, if_pos he]
theorem missTo_end {l : List U} {d : D} {k : Nat} (h : missTo l d k) (hk : ¬ k < l.length) : Ct.get l d = 0 := by
  unfold missTo at h
  rw [h, List.drop_eq_nil_of_le (by omega), Ct.get]

theorem cmpU_any (u : U) (d : D) (w : World) : Calls Tryz.prog 98 #[uV u, dV d] w fun e w' => e = .returned (.int .i64 (Dt.comp u.1.1 u.1.2 d.1 d.2)) ∧ Below w.heap.size w w' := by
  obtain ⟨⟨r, n⟩, m⟩ := u
  obtain ⟨r', n'⟩ := d
  have HC := fun w => comp_any r n r' n' w
  show Calls Tryz.prog 98 #[.agg #[.int .i64 r, .int .i64 n, .int .i64 m], dotV r' n'] w fun e w' => e = .returned (.int .i64 (Dt.comp r n r' n')) ∧ Below w.heap.size w w'
  generalize Dt.comp r n r' n' = z at *
  go_enter Tryz.func98, Tryz.ntmps98
  go_wp2_with (go_at_call 99; refine (HC _).mono ?_; rintro e w1 ⟨rfl, hb1⟩)
  go_ret
  exact ⟨rfl, bchain (below_new2 _ _ _) hb1⟩

/-- Where the search stands: all ahead of i are less, none from j on is. -/
def SInv (l : List U) (d : D) (i j : Nat) : Prop := i ≤ j ∧ j ≤ l.length ∧ (∀ k (h : k < l.length), k < i → Ct.lt (l[k]).1 d) ∧ (∀ k (h : k < l.length), j ≤ k → ¬ Ct.lt (l[k]).1 d)
theorem SInv.start (l : List U) (d : D) : SInv l d 0 l.length := ⟨Nat.zero_le _, Nat.le_refl _, fun _ _ h => absurd h (Nat.not_lt_zero _), fun k h1 h2 => by omega⟩
theorem SInv.up {l : List U} {d : D} {i j h : Nat} (hp : Ct.Std l) (hI : SInv l d i j) (h1 : i ≤ h) (h2 : h < j) (hh : h < l.length) (hl : Ct.lt (l[h]).1 d) : SInv l d (h + 1) j := by
  refine ⟨by omega, hI.2.1, fun k hk hk1 => ?_, hI.2.2.2⟩
  by_cases e : k = h
  · subst e; exact hl
  · exact Ct.lt_trans (List.pairwise_iff_getElem.1 hp.2 k h hk hh (by omega)) hl
theorem SInv.down {l : List U} {d : D} {i j h : Nat} (hp : Ct.Std l) (hI : SInv l d i j) (h1 : i ≤ h) (h2 : h < j) (hh : h < l.length) (hl : ¬ Ct.lt (l[h]).1 d) : SInv l d i h := by
  refine ⟨h1, by omega, hI.2.2.1, fun k hk hk1 hlt => ?_⟩
  by_cases e : k = h
  · subst e; exact hl hlt
  · exact hl (Ct.lt_trans (List.pairwise_iff_getElem.1 hp.2 h k hh hk (by omega)) hlt)
/-- Is there a count of it? -/
def hasD (l : List U) (d : D) : Bool := decide (Ct.get l d ≠ 0)
/-- Where it is found, it stands. -/
def hitAt (l : List U) (d : D) (i : Nat) : Prop := hasD l d = true → ∃ h : i < l.length, (l[i]).1 = d
theorem SInv.miss {l : List U} {d : D} {i : Nat} (hI : SInv l d i i) (hi : ¬ i < l.length) : hasD l d = false := by
  have h : Ct.get l d = 0 := Ct.get_none fun u hu e => by
    obtain ⟨k, hk, rfl⟩ := List.mem_iff_getElem.1 hu
    have := hI.2.2.1 k hk (by omega)
    rw [e] at this
    exact Ct.lt_irrefl _ this
  simp [hasD, h]
theorem SInv.hit {l : List U} {d : D} {i : Nat} (hp : Ct.Std l) (hI : SInv l d i i) (hi : i < l.length) : hasD l d = decide ((l[i]).1 = d) := by
  by_cases e : (l[i]).1 = d
  · have h1 := Ct.get_at hp i hi
    have h2 := (Ct.ok_iff.1 (hp.1 _ (List.getElem_mem hi))).2
    rw [e] at h1
    rw [decide_eq_true e, hasD, decide_eq_true]
    omega
  · have h : Ct.get l d = 0 := Ct.get_none fun u hu q => by
      obtain ⟨k, hk, rfl⟩ := List.mem_iff_getElem.1 hu
      by_cases h1 : k < i
      · have := hI.2.2.1 k hk h1
        rw [q] at this
        exact Ct.lt_irrefl _ this
      · by_cases h2 : k = i
        · subst h2; exact e q
        · have h3 := List.pairwise_iff_getElem.1 hp.2 i k hi hk (by omega)
          rw [q] at h3
          exact hI.2.2.2 i hi (Nat.le_refl _) h3
    simp [hasD, h, e]
theorem cf_lt (x y : D) : decide (Dt.comp x.1 x.2 y.1 y.2 < 0) = decide (Ct.lt x y) := by
  obtain ⟨a, b⟩ := x
  obtain ⟨c, d⟩ := y
  rcases Dt.comp_cases a b c d with ⟨h, e⟩ | ⟨h1, h2, e⟩ | ⟨h, e⟩ <;> simp only [e]
  · symm; rw [show decide ((-1 : Int) < 0) = true from rfl, decide_eq_true_iff]; exact h
  · symm; rw [show decide ((0 : Int) < 0) = false from rfl, decide_eq_false_iff_not]; subst h1 h2; exact Ct.lt_irrefl _
  · symm; rw [show decide ((1 : Int) < 0) = false from rfl, decide_eq_false_iff_not]; simp only [Ct.lt]; omega
theorem cf_eq (x y : D) : decide (Dt.comp x.1 x.2 y.1 y.2 = 0) = decide (x = y) := by
  obtain ⟨a, b⟩ := x
  obtain ⟨c, d⟩ := y
  rcases Dt.comp_cases a b c d with ⟨h, e⟩ | ⟨h1, h2, e⟩ | ⟨h, e⟩ <;> simp only [e]
  · symm; rw [show decide ((-1 : Int) = 0) = false from rfl, decide_eq_false_iff_not]; intro k; cases k; omega
  · subst h1 h2; simp
  · symm; rw [show decide ((1 : Int) = 0) = false from rfl, decide_eq_false_iff_not]; intro k; cases k; omega
theorem ret_pair {x : Value} {a b : Bool} (h : a = b) : Ending.returned (.tuple #[x, .bool a]) = .returned (.tuple #[x, .bool b]) := by rw [h]

set_option maxRecDepth 20000 in
set_option maxHeartbeats 400000 in
theorem search_any (v : Value) (l : List U) (d : D) (w : World) (hv : cntsIn w v l) (hn : l.length ≤ 1000000) (hp : Ct.Std l) :
    Calls Tryz.prog 97 #[v, dV d, .func (.func 98) #[] #[]] w fun e w' => ∃ i : Nat, e = .returned (.tuple #[.int .i64 (i : Int), .bool (hasD l d)]) ∧ hitAt l d i ∧ Below w.heap.size w w' := by
  obtain ⟨ao, c, rfl, _, _, hc⟩ := hv
  obtain ⟨W0, hW0⟩ : ∃ W0, W0 = w.alloc (.cells #[.int .i64 d.1, .int .i64 d.2] 53) := ⟨_, rfl⟩
  have hB0 : Below w.heap.size w W0 := by rw [hW0]; exact below_new _ _
  have hd0 : W0.cell? ⟨w.heap.size, 0, none⟩ = some (.int .i64 d.1) := by rw [hW0]; simp
  have hd1 : W0.cell? ⟨w.heap.size, 1, none⟩ = some (.int .i64 d.2) := by rw [hW0]; simp
  have HC : Hid (∀ k (h : k < l.length), ∃ ad, ao = some ad ∧ CAt w (ad.add (k * 3)) l[k]) := hc
  have HP : Hid (Ct.Std l) := hp
  clear hc hp
  obtain ⟨n, hn0⟩ : ∃ n, n = l.length := ⟨_, rfl⟩
  have HN : Hid (n = l.length) := hn0
  have HS : Hid (SInv l d 0 n) := by have h := SInv.start l d; rw [← hn0] at h; exact h
  rw [← hn0] at hn ⊢
  clear hn0
  go_enter Tryz.func97, Tryz.ntmps97
  go_wp2
  rw [← hW0]
  clear hW0
  go_loopw [9, 10, 11] (fun a b _ wr => ∃ i j : Nat, a = .int .i64 i ∧ b = .int .i64 j ∧ i ≤ j ∧ j ≤ n ∧ Hid (SInv l d i j) ∧ Below W0.heap.size W0 wr) (fun a b _ _ => (intOf b).toNat - (intOf a).toNat)
  case atStart => exact ⟨0, n, rfl, rfl, by omega, by omega, HS, Below.refl _ _⟩
  case round =>
    clear HS
    obtain ⟨i, j, rfl, rfl, hij, hjn, HS, hbw⟩ := hrel
    by_cases hlt : i < j
    · obtain ⟨h, hh⟩ : ∃ h : Nat, h = (i + j) / 2 := ⟨_, rfl⟩
      have hh1 : i ≤ h := by omega
      have hh2 : h < j := by omega
      have hhd : h < l.length := by have := HN.out; omega
      obtain ⟨ad, rfl, hA⟩ := HC.out h hhd
      obtain ⟨c0, c1, c2⟩ := hA.on (bchain hB0 hbw)
      have e0 := keep_cell hbw hd0
      have e1 := keep_cell hbw hd1
      have hshr : ((i : Int) + (j : Int)) / 2 = (h : Int) := by omega
      have hi0 : (0 : Int) ≤ (h : Int) := by omega
      have hi1 : (h : Int) < (n : Int) := by omega
      clear hh hA
      have HQ := fun W => cmpU_any l[h] d W
      have hz := cf_lt (l[h]).1 d
      by_cases hl : Ct.lt (l[h]).1 d
      · have HS' : Hid (SInv l d (h + 1) j) := by have k := HS.out.up HP.out hh1 hh2 hhd hl; exact k
        rw [decide_eq_true hl] at hz
        have hz' : Dt.comp (l[h]).1.1 (l[h]).1.2 d.1 d.2 < 0 := of_decide_eq_true hz
        clear hz hl HS
        generalize Dt.comp (l[h]).1.1 (l[h]).1.2 d.1 d.2 = z at *
        generalize l[h] = x at *
        go_wp2
        go_region_held3 (fun W => W.cell? (ad.add (h * 3)) = some (.int .i64 x.1.1) ∧ W.cell? ⟨(ad.add (h * 3)).block, (ad.add (h * 3)).off + 1, none⟩ = some (.int .i64 x.1.2) ∧ W.cell? ⟨(ad.add (h * 3)).block, (ad.add (h * 3)).off + 2, none⟩ = some (.int .i64 x.2) ∧ W.cell? ⟨w.heap.size, 0, none⟩ = some (.int .i64 d.1) ∧ W.cell? ⟨w.heap.size, 1, none⟩ = some (.int .i64 d.2) ∧ Below wr.heap.size wr W)
          (first | exact ⟨c0, c1, c2, e0, e1, (Below.refl _ _).drew⟩ | go_keep | (refine ⟨keep_cell hb ?_, keep_cell hb ?_, keep_cell hb ?_, keep_cell hb ?_, keep_cell hb ?_, bchain ?_ hb⟩ <;> go_keep))
          (first | (go_at_call 98; refine (HQ _).mono ?_; rintro e w1 ⟨rfl, hb⟩))
        have hbx : Below wr.heap.size wr w1 := bchain (Below.refl _ _).drew hb
        go_wp2
        go_roundw
        case rel => exact ⟨h + 1, j, by go_num, rfl, by omega, hjn, HS', bchain hbw hbx⟩
        case measure => simp [intOf]; omega
      · have HS' : Hid (SInv l d i h) := by have k := HS.out.down HP.out hh1 hh2 hhd hl; exact k
        rw [decide_eq_false hl] at hz
        have hz' : ¬ Dt.comp (l[h]).1.1 (l[h]).1.2 d.1 d.2 < 0 := of_decide_eq_false hz
        clear hz hl HS
        generalize Dt.comp (l[h]).1.1 (l[h]).1.2 d.1 d.2 = z at *
        generalize l[h] = x at *
        go_wp2
        go_region_held3 (fun W => W.cell? (ad.add (h * 3)) = some (.int .i64 x.1.1) ∧ W.cell? ⟨(ad.add (h * 3)).block, (ad.add (h * 3)).off + 1, none⟩ = some (.int .i64 x.1.2) ∧ W.cell? ⟨(ad.add (h * 3)).block, (ad.add (h * 3)).off + 2, none⟩ = some (.int .i64 x.2) ∧ W.cell? ⟨w.heap.size, 0, none⟩ = some (.int .i64 d.1) ∧ W.cell? ⟨w.heap.size, 1, none⟩ = some (.int .i64 d.2) ∧ Below wr.heap.size wr W)
          (first | exact ⟨c0, c1, c2, e0, e1, (Below.refl _ _).drew⟩ | go_keep | (refine ⟨keep_cell hb ?_, keep_cell hb ?_, keep_cell hb ?_, keep_cell hb ?_, keep_cell hb ?_, bchain ?_ hb⟩ <;> go_keep))
          (first | (go_at_call 98; refine (HQ _).mono ?_; rintro e w1 ⟨rfl, hb⟩))
        have hbx : Below wr.heap.size wr w1 := bchain (Below.refl _ _).drew hb
        go_wp2
        go_roundw
        case rel => exact ⟨i, h, rfl, rfl, hh1, by omega, HS', bchain hbw hbx⟩
        case measure => simp [intOf]; omega
    · obtain rfl : i = j := by omega
      by_cases hin : i < n
      · have hhd : i < l.length := by have := HN.out; omega
        obtain ⟨ad, rfl, hA⟩ := HC.out i hhd
        obtain ⟨c0, c1, c2⟩ := hA.on (bchain hB0 hbw)
        have e0 := keep_cell hbw hd0
        have e1 := keep_cell hbw hd1
        have HQ := fun W => cmpU_any l[i] d W
        have HE : Hid (hasD l d = decide (Dt.comp (l[i]).1.1 (l[i]).1.2 d.1 d.2 = 0) ∧ (hasD l d = true → (l[i]).1 = d)) := by
          have k : hasD l d = decide (Dt.comp (l[i]).1.1 (l[i]).1.2 d.1 d.2 = 0) := by rw [HS.out.hit HP.out hhd, cf_eq]
          have k2 : hasD l d = true → (l[i]).1 = d := fun q => by rw [HS.out.hit HP.out hhd] at q; exact of_decide_eq_true q
          exact (⟨k, k2⟩ : hasD l d = decide (Dt.comp (l[i]).1.1 (l[i]).1.2 d.1 d.2 = 0) ∧ (hasD l d = true → (l[i]).1 = d))
        have hi0 : (0 : Int) ≤ (i : Int) := by omega
        have hi1 : (i : Int) < (n : Int) := by omega
        clear hA
        have HX : Hid (hitAt l d i) := by
          have k : hitAt l d i := fun q => ⟨hhd, HE.out.2 q⟩
          exact k
        have HE' : Hid (hasD l d = decide (Dt.comp (l[i]).1.1 (l[i]).1.2 d.1 d.2 = 0)) := HE.out.1
        clear HE
        generalize Dt.comp (l[i]).1.1 (l[i]).1.2 d.1 d.2 = z at HQ HE'
        generalize l[i] = x at c0 c1 c2 HQ
        go_wp2
        go_region_held3 (fun W => W.cell? (ad.add (i * 3)) = some (.int .i64 x.1.1) ∧ W.cell? ⟨(ad.add (i * 3)).block, (ad.add (i * 3)).off + 1, none⟩ = some (.int .i64 x.1.2) ∧ W.cell? ⟨(ad.add (i * 3)).block, (ad.add (i * 3)).off + 2, none⟩ = some (.int .i64 x.2) ∧ W.cell? ⟨w.heap.size, 0, none⟩ = some (.int .i64 d.1) ∧ W.cell? ⟨w.heap.size, 1, none⟩ = some (.int .i64 d.2) ∧ Below wr.heap.size wr W)
          (first | exact ⟨c0, c1, c2, e0, e1, (Below.refl _ _).drew⟩ | go_keep | (refine ⟨keep_cell hb ?_, keep_cell hb ?_, keep_cell hb ?_, keep_cell hb ?_, keep_cell hb ?_, bchain ?_ hb⟩ <;> go_keep))
          (first | (go_at_call 98; refine (HQ _).mono ?_; rintro e w1 ⟨rfl, hb⟩))
        have hbx : Below wr.heap.size wr w1 := bchain (Below.refl _ _).drew hb
        go_wp2
        go_ret2
        refine ⟨_, ret_pair ?_, HX.out, bchain (bchain hB0 hbw) hbx⟩
        rw [HE'.out]
        by_cases e : z = 0
        · subst e; rfl
        · rw [decide_eq_false e]; exact beq_eq_false_iff_ne.2 e
      · have HE : Hid (hasD l d = false) := by
          have k := HS.out.miss (by have := HN.out; omega)
          exact k
        have hin' : ¬ (i : Int) < (n : Int) := by omega
        go_wp2
        go_region
        all_goals
          go_wp2
          go_ret2
          exact ⟨_, ret_pair HE.out.symm, fun q => absurd (HE.out.symm.trans q) (by decide), (bchain hB0 hbw).drew⟩

set_option maxRecDepth 20000 in
theorem get_any (v : Value) (l : List U) (d : D) (w : World) (hv : cntsIn w v l) (hn : l.length ≤ 1000000) (hp : Ct.Std l) :
    Calls Tryz.prog 59 #[v, dV d] w fun e w' => e = .returned (.int .i64 (Ct.get l d)) ∧ Below w.heap.size w w' := by
  obtain ⟨W0, hW0⟩ : ∃ W0, W0 = w.alloc (.cells #[.int .i64 d.1, .int .i64 d.2] 53) := ⟨_, rfl⟩
  have hB0 : Below w.heap.size w W0 := by rw [hW0]; exact below_new _ _
  have HC := search_any v l d W0 (hv.on hB0) hn hp
  cases hq : hasD l d with
  | false =>
    rw [hq] at HC
    have hz : Ct.get l d = 0 := by simpa [hasD] using hq
    rw [hz]
    clear hz hq
    go_enter Tryz.func59, Tryz.ntmps59
    go_wp2_with (go_at_call 97; rw [← hW0]; refine HC.mono ?_; rintro e w1 ⟨i, rfl, _, hb1⟩)
    go_ret
    exact ⟨rfl, bchain hB0 hb1⟩
  | true =>
    have HQ : Hid (hasD l d = true) := hq
    rw [hq] at HC
    have HP : Hid (Ct.Std l) := hp
    clear hq hp
    obtain ⟨ao, c, rfl, hc1, hc2, hc⟩ := hv
    have HV : Hid (∀ k (h : k < l.length), ∃ ad, ao = some ad ∧ CAt w (ad.add (k * 3)) l[k]) := hc
    clear hc
    obtain ⟨n, hn0⟩ : ∃ n, n = l.length := ⟨_, rfl⟩
    have HN : Hid (n = l.length) := hn0
    rw [← hn0] at HC ⊢
    clear hn0
    go_enter Tryz.func59, Tryz.ntmps59
    go_wp2_with (go_at_call 97; rw [← hW0]; refine HC.mono ?_; rintro e w1 ⟨i, rfl, hx, hb1⟩; obtain ⟨hi, hxd⟩ := hx HQ.out; obtain ⟨ad, rfl, hA⟩ := HV.out i hi; obtain ⟨c0, c1, c2⟩ := hA.on (bchain hB0 hb1); have HG : Hid (Ct.get l d = (l[i]).2) := (by have k : Ct.get l d = (l[i]).2 := (by rw [← hxd]; exact Ct.get_at HP.out i hi); exact k); have hi0 : (0 : Int) ≤ (i : Int) := (by omega); have hi1 : (i : Int) < (n : Int) := (by have := HN.out; omega); clear hA hxd; generalize (l[i]).2 = x at *)
    go_ret
    exact ⟨ret_int HG.out.symm, bchain hB0 hb1⟩
end Go.Proofs.YthlhopdlkkeohaaGreatDoor.T
/- The walks of Seen and Raise, both sides. -/
namespace Go.Proofs.YthlhopdlkkeohaaGreatDoor.T
open Go.Proofs.YthlhopdlkkeohaaGreatDoor.D
open Go.RowKit Go.Shelf

/-- Does a count count? -/
def seenZ (z : Int) : Bool := (z % 2 == 0)
theorem seenZ_not (z : Int) : seenZ (z + 1) = !seenZ z := by
  unfold seenZ
  rcases Int.emod_two_eq z with e | e
  · have : (z + 1) % 2 = 1 := by omega
    rw [e, this]; rfl
  · have : (z + 1) % 2 = 0 := by omega
    rw [e, this]; rfl
theorem seen_any (v : Value) (l : List U) (d : D) (w : World) (hv : cntsIn w v l) (hn : l.length ≤ 1000000) (hp : Ct.Std l) :
    Calls Tryz.prog 23 #[v, dV d] w fun e w' => e = .returned (.bool (seenZ (Ct.get l d))) ∧ Below w.heap.size w w' := by
  obtain ⟨W0, hW0⟩ : ∃ W0, W0 = w.alloc (.cells #[.int .i64 d.1, .int .i64 d.2] 53) := ⟨_, rfl⟩
  have hB0 : Below w.heap.size w W0 := by rw [hW0]; exact below_new _ _
  have HC := get_any v l d W0 (hv.on hB0) hn hp
  have hr := Ct.get_range hp d
  clear hv hp
  generalize Ct.get l d = z at *
  go_enter Tryz.func23, Tryz.ntmps23
  go_wp2_with (go_at_call 59; rw [← hW0]; refine HC.mono ?_; rintro e w1 ⟨rfl, hb1⟩)
  go_ret
  exact ⟨rfl, bchain hB0 hb1⟩
end Go.Proofs.YthlhopdlkkeohaaGreatDoor.T
/- The walk of counting: those transactions that count. -/
namespace Go.Proofs.YthlhopdlkkeohaaGreatDoor.O
open Go.RowKit

/-- Does a transaction count? -/
def seenD (u : List U) (d : D) : Bool := T.seenZ (Ct.get u d)
set_option maxRecDepth 20000 in
set_option maxHeartbeats 1000000 in
theorem notSeen_any (x : TE) (bb : Nat) (vu : Value) (u : List U) (w : World) (hc : w.cell? ⟨bb, 0, none⟩ = some vu) (hv : T.cntsIn w vu u) (hn : u.length ≤ 1000000) (hp : Ct.Std u) (hx : opsIn w x.2 x.1.ops) :
    Calls Tryz.prog 66 #[.agg (tcell x).toArray, .pointer (some ⟨bb, 0, none⟩)] w fun e w' => e = .returned (.bool (!seenD u x.1.d)) ∧ Below w.heap.size w w' := by
  show Calls Tryz.prog 66 #[txV x.1 x.2, .pointer (some ⟨bb, 0, none⟩)] w _
  obtain ⟨oo, oc, ho⟩ := hx.slice
  rw [ho]
  clear ho hx
  obtain ⟨W0, hW0⟩ : ∃ W0, W0 = w.alloc (txO x.1 (.slice oo x.1.ops.length oc)) := ⟨_, rfl⟩
  have hB0 : Below w.heap.size w W0 := by rw [hW0]; exact below_new _ _
  have HC := fun W (hb : Below W0.heap.size W0 W) => T.seen_any vu u x.1.d W (hv.on (bchain hB0 hb)) hn hp
  have hcb := keep_cell hB0 hc
  have T0 : TAt W0 w.heap.size x.1 (.slice oo x.1.ops.length oc) := by rw [hW0]; exact TAt.new w _ _
  obtain ⟨c0, c1, c2, c3, c4, c5⟩ := T0
  rw [hW0] at hcb
  obtain ⟨bo, cb, rfl, _, _, h9⟩ := hv
  clear h9 hp
  unfold seenD
  generalize T.seenZ (Ct.get u x.1.d) = q at *
  generalize u.length = n at *
  go_enter Tryz.func66, Tryz.ntmps66
  go_wp2_with (go_at_call 23; rw [← hW0]; refine (HC _ (Below.refl _ _)).mono ?_; rintro e w3 ⟨rfl, hb⟩)
  go_ret
  exact ⟨rfl, bchain hB0 hb⟩

set_option maxRecDepth 20000 in
set_option maxHeartbeats 1000000 in
theorem counting_any (v vu : Value) (xs : List TE) (u : List U) (w : World) (hv : txsE w v xs) (hu : T.cntsIn w vu u) (hn : xs.length ≤ 1000000) (hun : u.length ≤ 1000000) (hp : Ct.Std u) :
    Calls Tryz.prog 27 #[v, vu] w fun e w' => ∃ r, e = .returned r ∧ txsE w' r (xs.filter fun x => seenD u x.1.d) ∧ Below w.heap.size w w' := by
  obtain ⟨bo, cb, rfl, _, _, h9⟩ := id hu
  clear h9
  obtain ⟨W0, hW0⟩ : ∃ W0, W0 = w.alloc (.cells #[.slice bo u.length cb] 23) := ⟨_, rfl⟩
  have hB0 : Below w.heap.size w W0 := by rw [hW0]; exact below_new _ _
  have hbox : W0.cell? ⟨w.heap.size, 0, none⟩ = some (.slice bo u.length cb) := by rw [hW0]; simp
  have HC := tclone_any v xs W0 (hv.on hB0) hn
  have hops := (txsE_rows.1 (hv.on hB0)).2
  have HA : tAsks W0.heap.size W0 (.pointer (some ⟨w.heap.size, 0, none⟩)) xs (fun x => !seenD u x.1.d) := fun W x hx hW =>
    notSeen_any x w.heap.size _ u W (keep_cell hW hbox) ((hu.on hB0).on hW) hun hp ((hops x hx).on hW)
  have HD : ∀ r w1, w1.ownsRow W0.heap.size 56 6 r xs.length (tcells xs) → Below W0.heap.size W0 w1 → Calls Tryz.prog 64 #[r, .func (.func 66) #[] #[.pointer (some ⟨w.heap.size, 0, none⟩)]] w1 fun e w' => ∃ r, e = .returned r ∧ txsE w' r (xs.filter fun x => seenD u x.1.d) ∧ Below W0.heap.size W0 w' := fun r w1 own hb1 => by
    rcases id own.2 with ⟨rfl, h0⟩ | ⟨g, cap, cur, rfl, hbg, hg, r1, r2, r3, r4⟩
    · obtain rfl : xs = [] := List.eq_nil_of_length_eq_zero h0
      have HI := tindex_any (.slice none 0 0) [] W0 w1 W0.heap.size _ _ hb1 hb1.size ⟨none, 0, rfl, Nat.le_refl _, fun _ => rfl, fun j u hu => by simp at hu⟩ (by simp) HA
      have e9 : idxF (fun x : TE => !seenD u x.1.d) [] = -1 := rfl
      rw [e9] at HI
      clear own HA HC hops
      go_enter Tryz.func64, Tryz.ntmps64
      go_wp2_with (go_at_call 106; refine HI.mono ?_; rintro e w2 ⟨rfl, hb2⟩)
      go_ret
      exact ⟨_, rfl, ⟨none, 0, rfl, Nat.le_refl _, fun _ => rfl, fun j u hu => by simp [tcells] at hu, by simp⟩, bchain hb1 hb2⟩
    · obtain ⟨hO, h1, h2, h3, _⟩ := OwnR.of (f := tcell) (m := 6) tcell_len own
      refine (tdelete_any g cap xs W0.heap.size W0 w1 _ (fun x => seenD u x.1.d) hb1 hO (fun x hx => tcell_one (hops x hx)) hn h1 h2 h3 HA).mono ?_
      rintro e w2 ⟨rfl, hO2, hb2⟩
      refine ⟨_, rfl, txsE_rows.2 ⟨hO2.rows tcell_len (Nat.le_trans (List.length_filter_le _ _) h1), fun x hx => ?_⟩, hb2⟩
      exact (hops x (List.mem_filter.1 hx).1).on hb2
  clear HA hbox hv hu hops
  generalize u.length = n at *
  go_enter Tryz.func27, Tryz.ntmps27
  go_wp2_with (first | (go_at_call 65; rw [← hW0]; refine HC.mono ?_; rintro e w1 ⟨r, rfl, own, hb1⟩) | (go_at_call 64; refine (HD r w1 own hb1).mono ?_; rintro e w2 ⟨r2, rfl, hr2, hb2⟩))
  go_ret
  exact ⟨_, rfl, hr2, bchain hB0 hb2⟩
end Go.Proofs.YthlhopdlkkeohaaGreatDoor.O
/- The walk of the document's Covered: does a transaction that counts cover it? -/
namespace Go.Proofs.YthlhopdlkkeohaaGreatDoor.O
open Go.RowKit

/-- A transaction, one of its operations, and the reference that is looked for, while they are asked. -/
structure CvS (w : World) (p q : Addr) (t : Tx.Txn) (ov : Value) (o : Os.Op) (pv sv : Value) (bx : Nat) (x : U) (W : World) : Prop where
  tx : TcAt W p t ov
  op : OcAt W q o pv sv
  rf : CAt W ⟨bx, 0, none⟩ x
  below : Below w.heap.size w W
theorem CAt.on9 {w w' : World} {p : Addr} {x : U} (h : CAt w p x) (hb : Below w.heap.size w w') : CAt w' p x := ⟨keep_cell hb h.1, keep_cell hb h.2.1, keep_cell hb h.2.2⟩
theorem CvS.on {w : World} {p q : Addr} {t : Tx.Txn} {ov : Value} {o : Os.Op} {pv sv : Value} {bx : Nat} {x : U} {W W' : World} (h : CvS w p q t ov o pv sv bx x W) (hb : Below W.heap.size W W') : CvS w p q t ov o pv sv bx x W' :=
  ⟨h.tx.on hb, h.op.on hb, h.rf.on9 hb, bchain h.below hb⟩
/-- None of the first transactions covers it; of one none of the first operations. -/
def cvTo (ts : List Tx.Txn) (sn : D → Bool) (x : U) (k : Nat) : Prop := Lv.covered (ts.take k) sn x = false
def cvIn (t : Tx.Txn) (sn : D → Bool) (x : U) (j : Nat) : Prop := (sn t.d && Lv.names (t.ops.take j) x) = false
theorem cvTo_zero (ts : List Tx.Txn) (sn : D → Bool) (x : U) : cvTo ts sn x 0 := rfl
theorem cvIn_zero (t : Tx.Txn) (sn : D → Bool) (x : U) : cvIn t sn x 0 := by simp [cvIn, Lv.names]
theorem cvTo_end {ts : List Tx.Txn} {sn : D → Bool} {x : U} {k : Nat} (h : cvTo ts sn x k) (hk : ¬ k < ts.length) : Lv.covered ts sn x = false := by
  unfold cvTo at h
  rwa [List.take_of_length_le (by omega)] at h
end Go.Proofs.YthlhopdlkkeohaaGreatDoor.O
