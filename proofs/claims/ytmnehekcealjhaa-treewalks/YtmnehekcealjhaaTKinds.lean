/- The walks of tree's Kinds and Deep. -/
import Derived.Test.YtmnehekcealjhaaTKeys
import Derived.Test.YtmnehekcealjhaaCoversAll
namespace Go.Proofs.Ytmnehekcealjhaa.O
open Go.RowKit

/-- The kinds at a path, as they are met. -/
def knd (p : List (List UInt8)) (ys : List IE) : List Int := (ys.filter fun y => decide (y.1.o.p = p)).map fun y => Os.leaf y.1.o.k
theorem knd_yes {p : List (List UInt8)} {xs : List IE} {k : Nat} (hk : k < xs.length) (h : xs[k].1.o.p = p) : knd p (xs.take (k + 1)) = knd p (xs.take k) ++ [Os.leaf xs[k].1.o.k] := by
  unfold knd
  rw [List.take_succ_eq_append_getElem hk, List.filter_append, List.map_append, List.filter_cons, if_pos (decide_eq_true h)]
  rfl
theorem knd_no {p : List (List UInt8)} {xs : List IE} {k : Nat} (hk : k < xs.length) (h : xs[k].1.o.p ≠ p) : knd p (xs.take (k + 1)) = knd p (xs.take k) := by
  unfold knd
  rw [List.take_succ_eq_append_getElem hk, List.filter_append, List.map_append, List.filter_cons, if_neg (fun q => h (of_decide_eq_true q))]
  exact List.append_nil _
theorem knd_len (p : List (List UInt8)) (ys : List IE) : (knd p ys).length ≤ ys.length := by
  unfold knd
  rw [List.length_map]
  exact List.length_filter_le _ _
theorem new_num (w : World) (z : Int) : ∀ j v, (ncell z)[j]? = some v → (w.alloc (.cells #[.int .i64 z] 3)).cell? ((⟨w.heap.size, 0, none⟩ : Addr).add j) = some v := new_cells w (ncell z) 3
theorem ncell_one (z : Int) : ∀ u ∈ ncell z, u.oneCell' = true := fun u hu => by rw [List.mem_singleton.1 hu]; rfl

/-- How many parts the longest path has. -/
def deepE (ys : List IE) : Nat := Tr.deep (ys.map (·.1))
theorem deepE_step {ys : List IE} {k : Nat} (hk : k < ys.length) : deepE (ys.take (k + 1)) = max (deepE (ys.take k)) ys[k].1.o.p.length := by
  unfold deepE
  rw [List.map_take, Tr.deep_step _ (by simpa using hk), List.map_take]
  simp only [List.getElem_map]
set_option maxRecDepth 20000 in
set_option maxHeartbeats 2000000 in
theorem deep_any (v : Value) (xs : List IE) (w : World) (hv : itsE w v xs) (hn : xs.length ≤ 1000000) :
    Calls Try.prog 8 #[v] w fun e w' => e = .returned (.int .i64 (deepE xs : Int)) ∧ Below w.heap.size w w' := by
  obtain ⟨ao, cap, rfl⟩ := hv.slice
  obtain ⟨n, hn0⟩ : ∃ n, n = xs.length := ⟨_, rfl⟩
  have HN : Hid (n = xs.length) := hn0
  rw [← hn0] at hv hn ⊢
  have HV : Hid (itsE w (.slice ao n cap) xs) := hv
  clear hn0 hv
  go_enter Try.func8, Try.ntmps8
  go_wp2
  go_loopw [3, 5, 8] (fun d _ i wr => ∃ (k a : Nat), k ≤ n ∧ i = .int .i64 k ∧ d = .int .i64 (a : Int) ∧ Hid (a = deepE (xs.take k)) ∧ Below w.heap.size w wr) (fun _ _ i _ => n - (intOf i).toNat)
  case atStart => exact ⟨0, 0, by omega, rfl, rfl, rfl, Below.refl _ _⟩
  case round =>
    obtain ⟨k, a, hk, rfl, rfl, HA, hbw⟩ := hrel
    by_cases hkn : k < n
    · have hkx : k < xs.length := by rw [← HN.out]; exact hkn
      obtain ⟨ad, rfl, -, hX, hXi⟩ := (HV.out.on hbw).get hkx
      have hd := deepE_step hkx
      rw [← HA.out] at hd
      generalize xs[k] = y at *
      obtain ⟨it, pv, sv⟩ := y
      obtain ⟨hpx, hrx⟩ : U.strsAt wr pv it.o.p ∧ refsIn wr sv it.o.l := hXi
      obtain ⟨pa, pc, rfl⟩ := U.strsAt_len hpx
      obtain ⟨sa, sn, sc, rfl⟩ := refs_slice hrx
      obtain ⟨c0, c1, c2, c3, c4, c5, c6, c7, c8, c9, c10⟩ := hX
      have hd : deepE (xs.take (k + 1)) = max a it.o.p.length := hd
      have bA := below_new wr (.cells (icell (it, .slice pa it.o.p.length pc, .slice sa sn sc)).toArray 60)
      clear hpx hrx HA
      generalize it.o.p.length = b at *
      by_cases hab : a < b
      · have HE : Hid (b = deepE (xs.take (k + 1))) := by
          have h : b = deepE (xs.take (k + 1)) := by rw [hd, Nat.max_eq_right (by omega)]
          exact h
        have hab1 : (a : Int) < (b : Int) := by omega
        have hmx : max (a : Int) (b : Int) = (b : Int) := by omega
        clear hd
        go_wp2
        go_roundw
        case rel => exact ⟨k + 1, b, by omega, by go_num, by go_num, HE, bchain hbw bA⟩
        case measure => simp [intOf]; omega
      · have HE : Hid (a = deepE (xs.take (k + 1))) := by
          have h : a = deepE (xs.take (k + 1)) := by rw [hd, Nat.max_eq_left (by omega)]
          exact h
        have hab1 : ¬ (a : Int) < (b : Int) := by omega
        have hmx : max (a : Int) (b : Int) = (a : Int) := by omega
        clear hd
        go_wp2
        go_roundw
        case rel => exact ⟨k + 1, a, by omega, by go_num, by go_num, HE, bchain hbw bA⟩
        case measure => simp [intOf]; omega
    · have HE : Hid (a = deepE xs) := by
        have h := HA.out
        rw [List.take_of_length_le (by rw [← HN.out]; omega)] at h
        exact h
      go_wp2
      go_ret
      exact ⟨congrArg (fun z : Nat => Ending.returned (.int .i64 (z : Int))) HE.out, hbw⟩
end Go.Proofs.Ytmnehekcealjhaa.O
