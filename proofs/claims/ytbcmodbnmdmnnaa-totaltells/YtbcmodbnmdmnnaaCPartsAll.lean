/- The walks of total's incs, Parts, Sum and Count · The walk of the document's Parts · What Parts, Sum and Count tell, both sides, by the items alone. -/
import Derived.Test.YtbcmodbnmdmnnaaAtPAll
import Derived.Test.YtbcmodbnmdmnnaaLinesAll
import Derived.OwnWalk
/- The walks of total's incs, Parts, Sum and Count. -/
namespace Go.Proofs.Ytbcmodbnmdmnnaa.O
open Go.RowKit

theorem incs_any (v vp : Value) (xs : List IE) (p : List (List UInt8)) (w : World) (hv : itsE w v xs) (hp : U.strsAt w vp p) (hn : xs.length ≤ 1000000) (hs : ShortI xs) :
    Calls Try.prog 22 #[v, vp] w fun e w' => ∃ r, e = .returned r ∧ itsE w' r (xs.filter fun x => isAt p 3 x.1) ∧ Below w.heap.size w w' := by
  have HC := at_any v vp xs p 3 w hv hp hn hs
  clear hv hp hs
  go_enter Try.func22, Try.ntmps22
  go_wp2_with (go_at_call 35; refine HC.mono ?_; rintro e w1 ⟨r, rfl, hr, hb1⟩)
  go_ret
  exact ⟨_, rfl, hr, hb1⟩

/-- Items whose amounts may be. -/
def SmallN (xs : List IE) : Prop := ∀ x ∈ xs, -2147483647 ≤ x.1.o.n ∧ x.1.o.n ≤ 2147483647
/-- What items count up, and down. -/
def upE (ys : List IE) : Int := Li.ups (ys.map fun y => y.1.o.n)
def dnE (ys : List IE) : Int := Li.downs (ys.map fun y => y.1.o.n)
theorem upE_step {ys : List IE} {k : Nat} (hk : k < ys.length) : upE (ys.take (k + 1)) = upE (ys.take k) + if 0 < ys[k].1.o.n then ys[k].1.o.n else 0 := by
  unfold upE
  rw [List.map_take, Li.ups_step _ (by simpa using hk), List.map_take]
  simp only [List.getElem_map]
theorem dnE_step {ys : List IE} {k : Nat} (hk : k < ys.length) : dnE (ys.take (k + 1)) = dnE (ys.take k) + if ys[k].1.o.n < 0 then -ys[k].1.o.n else 0 := by
  unfold dnE
  rw [List.map_take, Li.downs_step _ (by simpa using hk), List.map_take]
  simp only [List.getElem_map]
theorem e_range {ys : List IE} (h : SmallN ys) (hn : ys.length ≤ 1000000) : 0 ≤ upE ys ∧ upE ys ≤ 2147483647000000 ∧ 0 ≤ dnE ys ∧ dnE ys ≤ 2147483647000000 := by
  have h1 := Li.ups_range 2147483647 (by decide) (ys.map fun y => y.1.o.n) fun n hm => by
    obtain ⟨y, hy, rfl⟩ := List.mem_map.1 hm
    exact h y hy
  rw [List.length_map] at h1
  have h2 : (ys.length : Int) * 2147483647 ≤ 1000000 * 2147483647 := Int.mul_le_mul_of_nonneg_right (by omega) (by decide)
  generalize (ys.length : Int) * 2147483647 = q at *
  unfold upE dnE
  omega
theorem SmallN.take {ys : List IE} (h : SmallN ys) (k : Nat) : SmallN (ys.take k) := fun x hx => h x (List.mem_of_mem_take hx)
theorem SmallN.filter {ys : List IE} (h : SmallN ys) (f : IE → Bool) : SmallN (ys.filter f) := fun x hx => h x (List.mem_filter.1 hx).1
theorem take_len {ys : List IE} (hn : ys.length ≤ 1000000) (k : Nat) : (ys.take k).length ≤ 1000000 := by rw [List.length_take]; omega

theorem ret_ab {a b a' b' : Int} (h1 : a = a') (h2 : b = b') : Ending.returned (.tuple #[.int .i64 a, .int .i64 b]) = .returned (.tuple #[.int .i64 a', .int .i64 b']) := by rw [h1, h2]

set_option maxRecDepth 20000 in
set_option maxHeartbeats 2000000 in
theorem parts_any (v vp : Value) (xs : List IE) (p : List (List UInt8)) (w : World) (hv : itsE w v xs) (hp : U.strsAt w vp p) (hn : xs.length ≤ 1000000) (hs : ShortI xs) (hz : SmallN xs) :
    Calls Try.prog 10 #[v, vp] w fun e w' => e = .returned (.tuple #[.int .i64 (upE (xs.filter fun y => isAt p 3 y.1)), .int .i64 (dnE (xs.filter fun y => isAt p 3 y.1))]) ∧ Below w.heap.size w w' := by
  have HC := incs_any v vp xs p w hv hp hn hs
  have hn1 : (xs.filter fun y => isAt p 3 y.1).length ≤ 1000000 := Nat.le_trans (List.length_filter_le _ _) hn
  have hz1 : Hid (SmallN (xs.filter fun y => isAt p 3 y.1)) := hz.filter _
  clear hv hp hs hn hz
  generalize (xs.filter fun y => isAt p 3 y.1) = ys at *
  go_enter Try.func10, Try.ntmps10
  go_wp2_with (go_at_call 22; refine HC.mono ?_; rintro e w1 ⟨r, rfl, hr, hb1⟩; obtain ⟨ao, cap, rfl⟩ := hr.slice; have HV : Hid (itsE w1 (.slice ao ys.length cap) ys) := hr; obtain ⟨n, hn0⟩ : ∃ n, n = ys.length := ⟨_, rfl⟩; have HN : Hid (n = ys.length) := hn0; have HL : Hid (ys.length ≤ 1000000) := hn1; rw [← hn0] at HV hn1 ⊢; clear hr hn0)
  clear HC
  go_loopw [6, 7, 9, 14] (fun up dn _ i wr => ∃ (k : Nat) (a b : Int), k ≤ n ∧ i = .int .i64 k ∧ up = .int .i64 a ∧ dn = .int .i64 b ∧ Hid (a = upE (ys.take k)) ∧ Hid (b = dnE (ys.take k)) ∧ Below w1.heap.size w1 wr) (fun _ _ _ i _ => n - (intOf i).toNat)
  case atStart => exact ⟨0, 0, 0, by omega, rfl, rfl, rfl, rfl, rfl, Below.refl _ _⟩
  case round =>
    obtain ⟨k, a, b, hk, rfl, rfl, rfl, HA, HB, hbw⟩ := hrel
    by_cases hkn : k < n
    · have hkx : k < ys.length := by rw [← HN.out]; exact hkn
      obtain ⟨ad, rfl, -, hX, hXi⟩ := (HV.out.on hbw).get hkx
      have hr := e_range (hz1.out.take k) (take_len HL.out k)
      rw [← HA.out, ← HB.out] at hr
      have hr1 := hz1.out _ (List.getElem_mem hkx)
      have HU := upE_step hkx
      have HD := dnE_step hkx
      rw [← HA.out] at HU
      rw [← HB.out] at HD
      by_cases he : 0 < ys[k].1.o.n
      · rw [if_pos he] at HU
        rw [if_neg (by omega)] at HD
        have HU1 : Hid (a + ys[k].1.o.n = upE (ys.take (k + 1))) := HU.symm
        have HD1 : Hid (b = dnE (ys.take (k + 1))) := by rw [HD]; show b = b + 0; omega
        have hw1 : IntKind.i64.wrap (a + ys[k].1.o.n) = a + ys[k].1.o.n := U.wrap_i64 (by omega) (by omega)
        clear HU HD hr hr1
        generalize ys[k] = y at *
        obtain ⟨it, pv, sv⟩ := y
        obtain ⟨pa, pn, pc, rfl⟩ := strs_slice hXi.1
        obtain ⟨sa, sn, sc, rfl⟩ := refs_slice hXi.2
        obtain ⟨c0, c1, c2, c3, c4, c5, c6, c7, c8, c9, c10⟩ := hX
        have bA := below_new wr (.cells (icell (it, .slice pa pn pc, .slice sa sn sc)).toArray 61)
        clear HA HB hXi
        go_wp2
        go_roundw
        case rel => exact ⟨k + 1, a + it.o.n, b, by omega, by go_num, rfl, rfl, HU1, HD1, bchain hbw bA⟩
        case measure => simp [intOf]; omega
      · rw [if_neg he] at HU
        have HU1 : Hid (a = upE (ys.take (k + 1))) := by rw [HU]; show a = a + 0; omega
        have HD1 : Hid (b - ys[k].1.o.n = dnE (ys.take (k + 1))) := by
          have h : b - ys[k].1.o.n = dnE (ys.take (k + 1)) := by rw [HD]; split <;> omega
          exact h
        have hw1 : IntKind.i64.wrap (b - ys[k].1.o.n) = b - ys[k].1.o.n := U.wrap_i64 (by omega) (by omega)
        clear HU HD hr hr1
        generalize ys[k] = y at *
        obtain ⟨it, pv, sv⟩ := y
        obtain ⟨pa, pn, pc, rfl⟩ := strs_slice hXi.1
        obtain ⟨sa, sn, sc, rfl⟩ := refs_slice hXi.2
        obtain ⟨c0, c1, c2, c3, c4, c5, c6, c7, c8, c9, c10⟩ := hX
        have bA := below_new wr (.cells (icell (it, .slice pa pn pc, .slice sa sn sc)).toArray 61)
        clear HA HB hXi
        go_wp2
        go_roundw
        case rel => exact ⟨k + 1, a, b - it.o.n, by omega, by go_num, rfl, rfl, HU1, HD1, bchain hbw bA⟩
        case measure => simp [intOf]; omega
    · have e : ys.take k = ys := List.take_of_length_le (by rw [← HN.out]; omega)
      rw [e] at HA HB
      go_wp2
      go_ret2
      exact ⟨ret_ab HA.out HB.out, bchain hb1 hbw⟩

set_option maxRecDepth 20000 in
set_option maxHeartbeats 2000000 in
theorem sum_any (v vp : Value) (xs : List IE) (p : List (List UInt8)) (w : World) (hv : itsE w v xs) (hp : U.strsAt w vp p) (hn : xs.length ≤ 1000000) (hs : ShortI xs) (hz : SmallN xs) :
    Calls Try.prog 11 #[v, vp] w fun e w' => e = .returned (.int .i64 (upE (xs.filter fun y => isAt p 3 y.1) - dnE (xs.filter fun y => isAt p 3 y.1))) ∧ Below w.heap.size w w' := by
  have HC := parts_any v vp xs p w hv hp hn hs hz
  have hr := e_range (hz.filter fun y => isAt p 3 y.1) (Nat.le_trans (List.length_filter_le _ _) hn)
  clear hv hp hs hn hz
  generalize upE (xs.filter fun y => isAt p 3 y.1) = a at *
  generalize dnE (xs.filter fun y => isAt p 3 y.1) = b at *
  have hw1 : IntKind.i64.wrap (a - b) = a - b := U.wrap_i64 (by omega) (by omega)
  clear hr
  go_enter Try.func11, Try.ntmps11
  go_wp2_with (go_at_call 10; refine HC.mono ?_; rintro e w1 ⟨rfl, hb1⟩)
  go_ret
  exact ⟨rfl, hb1⟩

set_option maxRecDepth 20000 in
set_option maxHeartbeats 2000000 in
theorem count_any (v vp : Value) (xs : List IE) (p : List (List UInt8)) (w : World) (hv : itsE w v xs) (hp : U.strsAt w vp p) (hn : xs.length ≤ 1000000) (hs : ShortI xs) :
    Calls Try.prog 12 #[v, vp] w fun e w' => e = .returned (.int .i64 ((xs.filter fun y => isAt p 3 y.1).length : Int)) ∧ Below w.heap.size w w' := by
  have HC := incs_any v vp xs p w hv hp hn hs
  clear hv hp hs hn
  generalize (xs.filter fun y => isAt p 3 y.1) = ys at *
  go_enter Try.func12, Try.ntmps12
  go_wp2_with (go_at_call 22; refine HC.mono ?_; rintro e w1 ⟨r, rfl, hr, hb1⟩; obtain ⟨ao, cap, rfl⟩ := hr.slice)
  go_ret
  exact ⟨rfl, hb1⟩
end Go.Proofs.Ytbcmodbnmdmnnaa.O
/- The walk of the document's Parts. -/
namespace Go.Proofs.Ytbcmodbnmdmnnaa.O
open Go.RowKit

theorem ret_three {a b c a' b' c' : Int} (h1 : a = a') (h2 : b = b') (h3 : c = c') : Ending.returned (.tuple #[.int .i64 a, .int .i64 b, .int .i64 c]) = .returned (.tuple #[.int .i64 a', .int .i64 b', .int .i64 c']) := by rw [h1, h2, h3]
set_option maxRecDepth 20000 in
set_option maxHeartbeats 2000000 in
theorem refParts_any (v vp : Value) (xs : List IE) (p : List (List UInt8)) (w : World) (hv : itsE w v xs) (hp : U.strsAt w vp p) (hn : xs.length ≤ 1000000) (hpn : p.length ≤ 2000000) (hs : ShortI xs) (hz : SmallN xs) :
    Calls Try.prog 9 #[v, vp] w fun e w' => e = .returned (.tuple #[.int .i64 (upE (xs.filter fun y => isAt p 3 y.1)), .int .i64 (dnE (xs.filter fun y => isAt p 3 y.1)), .int .i64 ((xs.filter fun y => isAt p 3 y.1).length : Int)]) ∧ Below w.heap.size w w' := by
  have HC := refAt_any v vp xs p 3 w hv hp hn hpn hs
  have hn1 : (xs.filter fun y => isAt p 3 y.1).length ≤ 1000000 := Nat.le_trans (List.length_filter_le _ _) hn
  have hz1 : Hid (SmallN (xs.filter fun y => isAt p 3 y.1)) := hz.filter _
  clear hv hp hs hn hz
  generalize (xs.filter fun y => isAt p 3 y.1) = ys at *
  go_enter Try.func9, Try.ntmps9
  go_wp2_with (go_at_call 21; refine HC.mono ?_; rintro e w1 ⟨r, rfl, hr, hb1⟩; obtain ⟨ao, cap, rfl⟩ := hr.slice; have HV : Hid (itsE w1 (.slice ao ys.length cap) ys) := hr; obtain ⟨n, hn0⟩ : ∃ n, n = ys.length := ⟨_, rfl⟩; have HN : Hid (n = ys.length) := hn0; have HL : Hid (ys.length ≤ 1000000) := hn1; rw [← hn0] at HV hn1 ⊢; clear hr hn0)
  clear HC
  go_loopw [7, 8, 10, 11] (fun up dn i _ wr => ∃ (k : Nat) (a b : Int), k ≤ n ∧ i = .int .i64 k ∧ up = .int .i64 a ∧ dn = .int .i64 b ∧ Hid (a = upE (ys.take k)) ∧ Hid (b = dnE (ys.take k)) ∧ Below w1.heap.size w1 wr) (fun _ _ i _ _ => n - (intOf i).toNat)
  case atStart => exact ⟨0, 0, 0, by omega, rfl, rfl, rfl, rfl, rfl, Below.refl _ _⟩
  case round =>
    obtain ⟨k, a, b, hk, rfl, rfl, rfl, HA, HB, hbw⟩ := hrel
    by_cases hkn : k < n
    · have hkx : k < ys.length := by rw [← HN.out]; exact hkn
      obtain ⟨ad, rfl, -, hX, hXi⟩ := (HV.out.on hbw).get hkx
      have hr := e_range (hz1.out.take k) (take_len HL.out k)
      rw [← HA.out, ← HB.out] at hr
      have hr1 := hz1.out _ (List.getElem_mem hkx)
      have HU := upE_step hkx
      have HD := dnE_step hkx
      rw [← HA.out] at HU
      rw [← HB.out] at HD
      have hi0 : (0 : Int) ≤ (k : Int) := by omega
      have hi1 : (k : Int) < (n : Int) := by omega
      have c8 := hX.c8
      clear hX hXi
      have hw1 : IntKind.i64.wrap (a + ys[k].1.o.n) = a + ys[k].1.o.n := U.wrap_i64 (by omega) (by omega)
      have hw2 : IntKind.i64.wrap (b - ys[k].1.o.n) = b - ys[k].1.o.n := U.wrap_i64 (by omega) (by omega)
      by_cases he : 0 < ys[k].1.o.n
      · have he2 : ¬ ys[k].1.o.n < 0 := by omega
        rw [if_pos he] at HU
        rw [if_neg he2] at HD
        have HU1 : Hid (a + ys[k].1.o.n = upE (ys.take (k + 1))) := HU.symm
        have HD1 : Hid (b = dnE (ys.take (k + 1))) := by rw [HD]; show b = b + 0; omega
        clear HU HD hr hr1 HA HB hw2
        generalize ys[k].1.o.n = z at *
        go_wp2
        go_roundw
        case rel => exact ⟨k + 1, a + z, b, by omega, by go_num, rfl, rfl, HU1, HD1, hbw⟩
        case measure => simp [intOf]; omega
      · by_cases he2 : ys[k].1.o.n < 0
        · rw [if_neg he] at HU
          rw [if_pos he2] at HD
          have HU1 : Hid (a = upE (ys.take (k + 1))) := by rw [HU]; show a = a + 0; omega
          have HD1 : Hid (b - ys[k].1.o.n = dnE (ys.take (k + 1))) := by rw [HD]; show b - ys[k].1.o.n = b + -ys[k].1.o.n; omega
          clear HU HD hr hr1 HA HB hw1
          generalize ys[k].1.o.n = z at *
          go_wp2
          go_roundw
          case rel => exact ⟨k + 1, a, b - z, by omega, by go_num, rfl, rfl, HU1, HD1, hbw⟩
          case measure => simp [intOf]; omega
        · rw [if_neg he] at HU
          rw [if_neg he2] at HD
          have HU1 : Hid (a = upE (ys.take (k + 1))) := by rw [HU]; show a = a + 0; omega
          have HD1 : Hid (b = dnE (ys.take (k + 1))) := by rw [HD]; show b = b + 0; omega
          clear HU HD hr hr1 HA HB hw1 hw2
          generalize ys[k].1.o.n = z at *
          go_wp2
          go_roundw
          case rel => exact ⟨k + 1, a, b, by omega, by go_num, rfl, rfl, HU1, HD1, hbw⟩
          case measure => simp [intOf]; omega
    · have e : ys.take k = ys := List.take_of_length_le (by rw [← HN.out]; omega)
      rw [e] at HA HB
      go_wp2
      go_ret3
      exact ⟨ret_three HA.out HB.out (by rw [HN.out]), bchain hb1 hbw⟩
end Go.Proofs.Ytbcmodbnmdmnnaa.O
/- What Parts, Sum and Count tell, both sides, by the items alone. -/
namespace Go.Proofs.Ytbcmodbnmdmnnaa.O
open Go.RowKit

theorem filt_map (P : Lv.Item → Bool) : ∀ l : List IE, (l.filter fun x => P x.1).map (·.1) = (l.map (·.1)).filter P := fun l => by
  rw [List.filter_map]
  rfl
theorem ns_its {xs : List IE} {its : List Lv.Item} (h : xs.map (·.1) = its) (p : List (List UInt8)) : (xs.filter fun y => isAt p 3 y.1).map (fun y => y.1.o.n) = Tr.nums its p := by
  have h1 := congrArg (List.map fun i : Lv.Item => i.o.n) (filt_map (isAt p 3) xs)
  rw [h, List.map_map] at h1
  exact h1
theorem len_its {xs : List IE} {its : List Lv.Item} (h : xs.map (·.1) = its) (p : List (List UInt8)) : (xs.filter fun y => isAt p 3 y.1).length = (Tr.nums its p).length := by rw [← ns_its h p, List.length_map]
/-- What is counted up, and down, at a path. -/
def upI (its : List Lv.Item) (p : List (List UInt8)) : Int := Li.ups (Tr.nums its p)
def dnI (its : List Lv.Item) (p : List (List UInt8)) : Int := Li.downs (Tr.nums its p)
def cnI (its : List Lv.Item) (p : List (List UInt8)) : Int := ((Tr.nums its p).length : Int)
section
variable {v vp : Value} {xs : List IE} {its : List Lv.Item} {p : List (List UInt8)} {w : World}
theorem up_its (he : xs.map (·.1) = its) : upE (xs.filter fun y => isAt p 3 y.1) = upI its p := by unfold upE upI; rw [ns_its he]
theorem dn_its (he : xs.map (·.1) = its) : dnE (xs.filter fun y => isAt p 3 y.1) = dnI its p := by unfold dnE dnI; rw [ns_its he]
theorem cn_its (he : xs.map (·.1) = its) : ((xs.filter fun y => isAt p 3 y.1).length : Int) = cnI its p := by unfold cnI; rw [len_its he]
theorem parts_its (hv : itsE w v xs) (he : xs.map (·.1) = its) (hp : U.strsAt w vp p) (hn : xs.length ≤ 1000000) (hs : ShortI xs) (hz : SmallN xs) : Calls Try.prog 10 #[v, vp] w fun e w' => e = .returned (.tuple #[.int .i64 (upI its p), .int .i64 (dnI its p)]) ∧ Below w.heap.size w w' := by
  rw [← up_its he, ← dn_its he]; exact parts_any v vp xs p w hv hp hn hs hz
theorem refParts_its (hv : itsE w v xs) (he : xs.map (·.1) = its) (hp : U.strsAt w vp p) (hn : xs.length ≤ 1000000) (hpn : p.length ≤ 2000000) (hs : ShortI xs) (hz : SmallN xs) : Calls Try.prog 9 #[v, vp] w fun e w' => e = .returned (.tuple #[.int .i64 (upI its p), .int .i64 (dnI its p), .int .i64 (cnI its p)]) ∧ Below w.heap.size w w' := by
  rw [← up_its he, ← dn_its he, ← cn_its he]; exact refParts_any v vp xs p w hv hp hn hpn hs hz
theorem sum_its (hv : itsE w v xs) (he : xs.map (·.1) = its) (hp : U.strsAt w vp p) (hn : xs.length ≤ 1000000) (hs : ShortI xs) (hz : SmallN xs) : Calls Try.prog 11 #[v, vp] w fun e w' => e = .returned (.int .i64 (upI its p - dnI its p)) ∧ Below w.heap.size w w' := by
  rw [← up_its he, ← dn_its he]; exact sum_any v vp xs p w hv hp hn hs hz
theorem count_its (hv : itsE w v xs) (he : xs.map (·.1) = its) (hp : U.strsAt w vp p) (hn : xs.length ≤ 1000000) (hs : ShortI xs) : Calls Try.prog 12 #[v, vp] w fun e w' => e = .returned (.int .i64 (cnI its p)) ∧ Below w.heap.size w w' := by
  rw [← cn_its he]; exact count_any v vp xs p w hv hp hn hs
end
end Go.Proofs.Ytbcmodbnmdmnnaa.O
